/-
  The law that a way leads from one block to another, and back: it answers true. Conditions: the numbers lie where the slice says; three errors and the table of the rounds' words are there.
-/
import Derived.Test.YtnhmjlljnckieaaDoorMg16
import Derived.Test.YtnhmjlljnckieaaDoorMg17
import Derived.Test.YtnhmjlljnckieaaDoorMg12
namespace Go.Proofs.YtnhmjlljnckieaaDoor.Sha
open Go Go.RowKit
theorem ofT_at {L : List TNd} (h : TrL L) {j : Nat} {y : TNd} (hy : L[j]? = some y) : ofT L y.id = (y.h, y.height, y.work, true) := by
  unfold ofT
  rw [findT_id h hy, if_neg (by omega), getD_int hy]
theorem upId_len {L : List TNd} (ht : TrL L) (hh : Hung L) {x n : Nat} (hx : x < L.length) (hn : n < (upL L (x : Int)).length) : (upId L (x : Int) n).length = 32 := by
  obtain ⟨j, y, _, hy, e, _⟩ := up_at ht hh hx hn
  rw [e]
  exact (ht.ok _ (List.mem_of_getElem? hy)).1
/-- What Head tells of the one so far down. -/
theorem ofT_up {L : List TNd} (ht : TrL L) (hh : Hung L) {x n : Nat} (hx : x < L.length) (hn : n + 1 < (upL L (x : Int)).length) : ∃ h, (ofT L (upId L (x : Int) n)).1 = h ∧ (ofT L (upId L (x : Int) n)).2.2.2 = true ∧ HdOk h ∧ h.prev = upId L (x : Int) (n + 1) := by
  obtain ⟨j, y, _, hy, e, hp⟩ := up_at ht hh hx (n := n) (by omega)
  rw [e, ofT_at ht hy]
  exact ⟨y.h, rfl, rfl, (ht.ok _ (List.mem_of_getElem? hy)).2.1, hp hn⟩
def TwI1 (z : Nat → Int) (m base b mb : Nat) (w3 : World) (vi : Value) (wr : World) : Prop :=
  ∃ (k : Nat) (M : List CNd), vi = .int .i64 ((k : Int) + 1) ∧ k ≤ m ∧ ndM M = treeN z k ∧ CtAt wr base b mb M ∧ Below base w3 wr
theorem HsAt.len' {w : World} {v : Value} {l : List (List UInt8)} (h : HsAt w v l) : ∃ sp cap, v = .slice sp l.length cap := by
  obtain ⟨_, sp, cap, e, _⟩ := h
  exact ⟨sp, cap, e⟩
/-- The ways between two blocks, in memory. -/
structure WaysAt (w : World) (L : List TNd) (x y : Int) (nb nc : Nat) (s1 s2 s3 s4 : Option Addr) (c1 c2 c3 c4 : Nat) : Prop where
  back : HsAt w (.slice s1 nb c1) (idsT L ((upL L x).take nb))
  on : HsAt w (.slice s2 nc c2) (idsT L ((upL L y).take nc)).reverse
  down : HsAt w (.slice s3 nc c3) (idsT L ((upL L y).take nc))
  up : HsAt w (.slice s4 nb c4) (idsT L ((upL L x).take nb)).reverse
theorem WaysAt.below {w w' : World} {L : List TNd} {x y : Int} {nb nc : Nat} {s1 s2 s3 s4 : Option Addr} {c1 c2 c3 c4 : Nat} (h : WaysAt w L x y nb nc s1 s2 s3 s4 c1 c2 c3 c4) (hb : Below w.heap.size w w') : WaysAt w' L x y nb nc s1 s2 s3 s4 c1 c2 c3 c4 :=
  ⟨h.back.below hb, h.on.below hb, h.down.below hb, h.up.below hb⟩
theorem rev_getD {l : List (List UInt8)} {n i : Nat} (hl : l.length = n) (hi : i < n) : l.reverse.getD i [] = l.getD (n - 1 - i) [] := by
  rw [List.getD_eq_getElem?_getD, List.getD_eq_getElem?_getD, List.getElem?_reverse (by omega), hl]
theorem idsT_getD {L : List TNd} {x : Int} {n i : Nat} (hi : i < n) (hn : n ≤ (upL L x).length) : (idsT L ((upL L x).take n)).getD i [] = upId L x i := by
  rw [List.getD_eq_getElem?_getD, idsT_get hi hn]
  rfl
def TwI2 (L : List TNd) (x : Int) (nb g : Nat) (w0 : World) (vi : Value) (wr : World) : Prop :=
  ∃ n : Nat, vi = .int .i64 (n : Int) ∧ n ≤ nb ∧ wr.heap[g]? = some (.cells ((upId L x n).map bV).toArray 30 (0, 0)) ∧ Below w0.heap.size w0 wr
def TwI3 (L : List TNd) (y : Int) (nc g : Nat) (w0 : World) (vi : Value) (wr : World) : Prop :=
  ∃ n : Nat, vi = .int .i64 (n : Int) ∧ n ≤ nc ∧ wr.heap[g]? = some (.cells ((upId L y (nc - n)).map bV).toArray 30 (0, 0)) ∧ Below w0.heap.size w0 wr
set_option maxHeartbeats 8000000 in
set_option maxRecDepth 100000 in
theorem treeways_main (E : Nat → Addr) (w : World) (sp : Option Addr) (m cap : Nat) (z : Nat → Int) (x y : Int) (hk : KTab w) (hE : CE w E) (hz : SrcZ w sp m z) (hx : -9223372036854775808 ≤ x ∧ x ≤ 9223372036854775807) (hy : -9223372036854775808 ≤ y ∧ y ≤ 9223372036854775807) :
    Calls Tryd.prog 3 #[.slice sp m cap, .int .i64 x, .int .i64 y] w fun e w' => e = .returned (.bool true) ∧ Below w.heap.size w w' := by
  have HK := Lib.hid hk
  have HE := Lib.hid hE
  have HZ := Lib.hid hz
  have HX := Lib.hid hx
  have HY := Lib.hid hy
  clear hk hE hz hx hy
  go_enter Tryd.func3, Tryd.ntmps3
  go_wp2_with fail
  refine (tfirst_any w HK.out).mono ?_
  rintro e w1 ⟨rfl, bb⟩
  have B1 := Lib.hid bb
  clear bb
  by_cases h60 : 60 < m
  · have q : (60 : Int) < (m : Int) := by omega
    go_wp2_with fail
    go_ret
    exact ⟨rfl, B1.out⟩
  have q : ¬ (60 : Int) < (m : Int) := by omega
  have HM : Hid (m ≤ 60) := by show _ ≤ _; omega
  clear h60
  go_wp2_with fail
  clear q
  refine (tgrown_any w1 sp m cap z (fun h0 => by obtain ⟨cb, coff, e, hc⟩ := HZ.out h0; exact ⟨cb, coff, e, fun i hi => ⟨cell_below (hc i hi).1 B1.out, (hc i hi).2⟩⟩) HM.out).mono ?_
  rintro e w2 ⟨hv, rfl, ho, bb⟩
  have B2 := Lib.hid (B1.out.trans (bb.mono B1.out.size))
  obtain ⟨nn, hnn⟩ : ∃ nn, nn = m + 1 := ⟨_, rfl⟩
  have GL : Hid ((grownN z m).length = nn) := by show _ = _; rw [grownN_length, hnn]
  obtain ⟨so, co, rfl⟩ : ∃ so co, hv = .slice so nn co := by
    obtain ⟨so, co, e⟩ := (ho.at (by omega)).shape
    exact ⟨so, co, by rw [e, List.length_map, GL.out]⟩
  obtain ⟨bo, oo, rfl, hgo⟩ := (ho.at (by omega)).get (by omega)
  have HG : Hid (∀ j, j < nn → w2.rangeAt bo (oo + j * 68) (hdL (hdAt z j))) := fun j hj => hgo j _ (by rw [List.getElem?_map, grownN_get z m j (by omega)]; rfl)
  have LH : Hid (∀ j, (hdL (hdAt z j)).length = 68) := fun j => hdL_length (hdAt_ok z j)
  have HNN := Lib.hid hnn
  clear bb ho hgo
  have RX := Lib.hid (HG.out 0 (by omega))
  have LX := Lib.hid (LH.out 0)
  have NW := Lib.hid (ctnew_any w2 (hdAt z 0) (hdAt_ok z 0) (HK.out.below B2.out))
  obtain ⟨c0, hc0⟩ : ∃ c0, c0 = hdL (hdAt z 0) := ⟨_, rfl⟩
  rw [← hc0] at RX LX NW
  have p0 : (0 : Int) < (nn : Int) := by omega
  clear hc0 hnn
  go_wp2_with ((with_reducible show wpList _ _ _ _ _ _); first | (refine wpList_load_mid rfl 32 (.tmp 38) rfl bo (oo + 0 * 68) rfl c0 _ RX.out Tryd.underlying32 rfl (by rw [LX.out]; kernel_rfl) ?_; go_frame) | (refine wpList_load_mid rfl 32 (.tmp 38) rfl bo oo rfl c0 _ RX.out Tryd.underlying32 rfl (by rw [LX.out]; kernel_rfl) ?_; go_frame))
  clear p0
  refine NW.out.mono ?_
  rintro e w3 ⟨b, mb, g, rfl, hct, bb⟩
  have B3 := Lib.hid (B2.out.trans (bb.mono B2.out.size))
  obtain ⟨base, hbase⟩ : ∃ base, base = w2.heap.size := ⟨_, rfl⟩
  rw [← hbase] at hct
  have BS : Hid (base = w2.heap.size) := hbase
  have HT := Lib.hid hct
  have C3 : Hid (Below base w2 w3) := by show Below _ _ _; rw [hbase]; exact bb
  clear hct bb NW hbase RX LX
  go_wp2_with fail
  go_loopw [10] (fun vi wr => TwI1 z m base b mb w2 vi wr) (fun vi _ => (m + 1) - (intOf vi).toNat)
  case atStart => exact ⟨0, _, by go_num, Nat.zero_le _, rfl, HT.out, C3.out⟩
  case round =>
    clear HT C3 B3
    obtain ⟨k, M, rfl, hk, hm, hct, hb⟩ := hrel
    have HT := Lib.hid hct
    have ME := Lib.hid hm
    have BW : Hid (Below w.heap.size w wr) := B2.out.trans ((show Below w2.heap.size w2 wr by rw [← BS.out]; exact hb).mono B2.out.size)
    have BZ : Hid (Below w2.heap.size w2 wr) := by show Below _ _ _; rw [← BS.out]; exact hb
    have TI := Lib.hid (treeN_i z k (by have := HM.out; omega))
    have HNK := HNN.out
    have km := HM.out
    clear hct hb hm
    by_cases hlt : k + 1 < nn
    · have RX := Lib.hid (range_below (HG.out (k + 1) hlt) BZ.out)
      have LX := Lib.hid (LH.out (k + 1))
      have AD : Hid (Calls Tryd.prog 8 #[(.pointer (some ⟨b, 0, none⟩)), .agg (hdL (hdAt z (k + 1))).toArray] wr (CtaP E base b mb M (hdAt z (k + 1)) wr)) := ctadd_any E wr base b mb M _ HT.out (by rw [ME.out]; exact TI.out.tr) (hdAt_ok z _) (HK.out.below BW.out) (HE.out.below BW.out) (by rw [BS.out]; exact BZ.out.size)
      have AT : Hid (addT (treeN z k) (hdAt z (k + 1)) = treeN z (k + 1)) := rfl
      obtain ⟨hd, hhd⟩ : ∃ hd, hd = hdAt z (k + 1) := ⟨_, rfl⟩
      rw [← hhd] at AD AT
      rw [← hhd] at RX LX
      obtain ⟨cx, hcx⟩ : ∃ cx, cx = hdL hd := ⟨_, rfl⟩
      rw [← hcx] at AD RX LX
      obtain ⟨k1, hk1⟩ : ∃ k1, k1 = k + 1 := ⟨_, rfl⟩
      have K1 := Lib.hid hk1
      have ek : (k : Int) + 1 = (k1 : Int) := by omega
      rw [ek]
      rw [← hk1] at RX
      have p0 : 0 ≤ (k1 : Int) := by omega
      have p1 : (k1 : Int) < (nn : Int) := by omega
      have p2 : k1 ≤ 60 := by omega
      have LT := Lib.hid hlt
      clear hk hlt hhd hcx hk1 ek HNK km
      go_wp2_with ((with_reducible show wpList _ _ _ _ _ _); (refine wpList_load_mid rfl 32 (.tmp 52) rfl bo (oo + k1 * 68) rfl cx _ RX.out Tryd.underlying32 rfl (by rw [LX.out]; kernel_rfl) ?_; go_frame))
      refine AD.out.mono ?_
      rintro e w5 ⟨rfl, hbl, hok⟩
      obtain ⟨M', hm', hct', hb'⟩ : ∃ M', ndM M' = treeN z (k + 1) ∧ CtAt w5 base b mb M' ∧ Below base w2 w5 := by
        by_cases h0 : addE (ndM M) hd = 0
        · obtain ⟨M', q1, q2, q3⟩ := hok h0
          refine ⟨M', ?_, q2, ?_⟩
          · rw [q1, ME.out, ← AT.out]
            unfold addT
            rw [ME.out] at h0
            rw [if_pos h0]
          · have hb := BZ.out
            have hs := BZ.out.size
            rw [BS.out]
            refine hb.trans ⟨q3.os, q3.tape, q3.output, q3.size, fun j hj => q3.block j (by omega) (HT.out.oldF (by rw [BS.out]; exact hj))⟩
        · have hb := hbl h0
          refine ⟨M, ?_, HT.out.below hb, by rw [BS.out]; exact BZ.out.trans (hb.mono BZ.out.size)⟩
          rw [ME.out, ← AT.out]
          unfold addT
          rw [ME.out] at h0
          rw [if_neg h0]
      have HT := Lib.hid hct'
      have M5 := Lib.hid hm'
      have B5 := Lib.hid hb'
      clear hbl hok hct' hm' hb' AD RX LX p0 p1
      go_wp2_with fail
      go_roundw
      case rel =>
        have := K1.out
        exact ⟨k + 1, M', by have e := K1.out; subst e; go_num, by have := HNN.out; have := LT.out; omega, M5.out, HT.out, B5.out⟩
      case measure =>
        have h1 := K1.out
        have h2 := LT.out
        have h3 := HNN.out
        simp [intOf]
        omega
    · have hkm : k = m := by have := HNN.out; omega
      subst hkm
      have e1 : (k : Int) + 1 = (nn : Int) := by omega
      rw [e1]
      clear hk hlt e1 HNK km
      have BW0 := Lib.hid BW.out
      have TI0 := Lib.hid TI.out
      obtain ⟨L, hL⟩ : ∃ L, L = treeN z k := ⟨_, rfl⟩
      rw [← hL] at ME TI
      clear hL TI0
      have CB : Hid (Below wr.heap.size wr wr) := Below.refl _ _
      obtain ⟨r, hr, hrn⟩ := numb_nat x nn (by have := HNN.out; omega)
      obtain ⟨s, hs, hsn⟩ := numb_nat y nn (by have := HNN.out; omega)
      have RN := Lib.hid hrn
      have SN := Lib.hid hsn
      have N1 : Hid (∀ W, Calls Tryd.prog 10 #[.int .i64 x, .int .i64 (nn : Int)] W fun e w' => e = .returned (.int .i64 (r : Int)) ∧ W = w') := fun W => by
        have h := numb_any x (nn : Int) (by have := HNN.out; omega) (by have := HNN.out; have := HM.out; omega) HX.out W
        rw [hr] at h
        exact h
      have N2 : Hid (∀ W, Calls Tryd.prog 10 #[.int .i64 y, .int .i64 (nn : Int)] W fun e w' => e = .returned (.int .i64 (s : Int)) ∧ W = w') := fun W => by
        have h := numb_any y (nn : Int) (by have := HNN.out; omega) (by have := HNN.out; have := HM.out; omega) HY.out W
        rw [hs] at h
        exact h
      obtain ⟨a1, c1, hf1, ha1, hi1⟩ : ∃ (a1 : Nat) (c1 : TNd), findT L (hdId (hdAt z r)) = (a1 : Int) ∧ L[a1]? = some c1 ∧ c1.id = hdId (hdAt z r) := by
        rcases findT_cases L (hdId (hdAt z r)) with ⟨e, _⟩ | ⟨q, c, e, h1, h2, _⟩
        · have := TI.out.has r (by have := HNN.out; omega); omega
        · exact ⟨q, c, e, h1, h2⟩
      obtain ⟨a2, c2, hf2, ha2, hi2⟩ : ∃ (a2 : Nat) (c2 : TNd), findT L (hdId (hdAt z s)) = (a2 : Int) ∧ L[a2]? = some c2 ∧ c2.id = hdId (hdAt z s) := by
        rcases findT_cases L (hdId (hdAt z s)) with ⟨e, _⟩ | ⟨q, c, e, h1, h2, _⟩
        · have := TI.out.has s (by have := HNN.out; omega); omega
        · exact ⟨q, c, e, h1, h2⟩
      have IA : Hid (hdId (hdAt z r) = c1.id) := hi1.symm
      have IB : Hid (hdId (hdAt z s) = c2.id) := hi2.symm
      rw [← hi1] at hf1
      rw [← hi2] at hf2
      have F1 := Lib.hid hf1
      have F2 := Lib.hid hf2
      have H1 := Lib.hid ha1
      have H2 := Lib.hid ha2
      have LA1 : Hid (a1 < L.length) := (List.getElem?_eq_some_iff.1 ha1).1
      have LA2 : Hid (a2 < L.length) := (List.getElem?_eq_some_iff.1 ha2).1
      have TP := Lib.hid (tw_p TI.out.tr LA1.out LA2.out)
      obtain ⟨nb, hnb⟩ : ∃ nb, nb = (upL L (a1 : Int)).length - comT L (a1 : Int) (a2 : Int) := ⟨_, rfl⟩
      obtain ⟨nc, hnc⟩ : ∃ nc, nc = (upL L (a2 : Int)).length - comT L (a1 : Int) (a2 : Int) := ⟨_, rfl⟩
      rw [← hnb, ← hnc] at TP
      have L1 : Hid (c1.id.length = 32) := (TI.out.tr.ok _ (List.mem_of_getElem? ha1)).1
      have L2 : Hid (c2.id.length = 32) := (TI.out.tr.ok _ (List.mem_of_getElem? ha2)).1
      have U1 : Hid (upId L (a1 : Int) 0 = c1.id) := upId_zero TI.out.tr ha1
      have U2 : Hid (upId L (a2 : Int) 0 = c2.id) := upId_zero TI.out.tr ha2
      have UL : Hid ((upL L (a1 : Int)).length ≤ 4097 ∧ (upL L (a2 : Int)).length ≤ 4097) := by
        have h1 := chain_len TI.out.tr ha1
        have h2 := chain_len TI.out.tr ha2
        have h3 := up_len (L := L) (a1 : Int)
        have h4 := up_len (L := L) (a2 : Int)
        exact ⟨by omega, by omega⟩
      have SA : Hid ((c1.id.map bV).toArray.size = 32) := by show _ = _; rw [List.size_toArray, List.length_map]; exact L1.out
      have SB : Hid ((c2.id.map bV).toArray.size = 32) := by show _ = _; rw [List.size_toArray, List.length_map]; exact L2.out
      have OA : Hid ((c1.id.map bV).toArray.all (·.oneCell') = true) := bV_one _
      have OB : Hid ((c2.id.map bV).toArray.all (·.oneCell') = true) := bV_one _
      have TR : Hid (TrL (ndM M)) := by show TrL _; rw [ME.out]; exact TI.out.tr
      have PAB : Hid (∀ W, Below wr.heap.size wr W → Calls Tryd.prog 11 #[(.pointer (some ⟨b, 0, none⟩)), .agg (c1.id.map bV).toArray, .agg (c2.id.map bV).toArray] W (CpPost L (a1 : Int) (a2 : Int) W)) := fun W hW => by
        have h := ctpath_any W base b mb M c1.id c2.id (HT.out.below hW) TR.out L1.out L2.out
        rw [ME.out, F1.out, F2.out] at h
        exact h
      have PBA : Hid (∀ W, Below wr.heap.size wr W → Calls Tryd.prog 11 #[(.pointer (some ⟨b, 0, none⟩)), .agg (c2.id.map bV).toArray, .agg (c1.id.map bV).toArray] W (CpPost L (a2 : Int) (a1 : Int) W)) := fun W hW => by
        have h := ctpath_any W base b mb M c2.id c1.id (HT.out.below hW) TR.out L2.out L1.out
        rw [ME.out, F1.out, F2.out] at h
        exact h
      have PCO : Hid (∀ W, Below wr.heap.size wr W → Calls Tryd.prog 12 #[(.pointer (some ⟨b, 0, none⟩)), .agg (c1.id.map bV).toArray, .agg (c2.id.map bV).toArray] W fun e w' => CoPost L (a1 : Int) (a2 : Int) e ∧ Below W.heap.size W w') := fun W hW => by
        have h := ctcommon_any W base b mb M c1.id c2.id (HT.out.below hW) TR.out L1.out L2.out
        rw [ME.out, F1.out, F2.out] at h
        exact h
      obtain ⟨ca, hca⟩ : ∃ ca, ca = c1.id.map bV := ⟨_, rfl⟩
      obtain ⟨cb, hcb⟩ : ∃ cb, cb = c2.id.map bV := ⟨_, rfl⟩
      rw [← hca] at SA OA PAB PBA PCO
      rw [← hcb] at SB OB PAB PBA PCO
      have CAE := Lib.hid hca
      have CBE := Lib.hid hcb
      have IAC : Hid ((hdId (hdAt z r)).map bV = ca) := by show _ = _; rw [IA.out, hca]
      have IBC : Hid ((hdId (hdAt z s)).map bV = cb) := by show _ = _; rw [IB.out, hcb]
      clear hr hs hrn hsn hf1 hf2 ha1 ha2 hi1 hi2 hnb hnc hca hcb
      go_upto_region 14 with fail
      have RX := Lib.hid (range_below (HG.out r RN.out) (BZ.out.trans (CB.out.mono BZ.out.size)))
      have LX := Lib.hid (LH.out r)
      have RI := Lib.hid (rheadid_any (hdAt z r) (hdAt_ok z r))
      have p0 : 0 ≤ (r : Int) := by omega
      have p1 : (r : Int) < (nn : Int) := by have := RN.out; omega
      obtain ⟨cx, hcx⟩ : ∃ cx, cx = hdL (hdAt z r) := ⟨_, rfl⟩
      rw [← hcx] at RX LX RI
      rw [IAC.out] at RI
      clear hcx
      go_wp2_with fail
      refine (N1.out _).mono ?_
      rintro e w' ⟨rfl, rfl⟩
      go_wp2_with ((with_reducible show wpList _ _ _ _ _ _); (refine wpList_load_mid rfl 32 (.tmp 60) rfl bo (oo + r * 68) rfl cx _ RX.out Tryd.underlying32 rfl (by rw [LX.out]; kernel_rfl) ?_; go_frame))
      refine (RI.out _).mono ?_
      rintro e w4 ⟨rfl, bb⟩
      have CB := Lib.hid (CB.out.trans (bb.mono CB.out.size))
      clear bb RX LX RI p0 p1
      go_upto_region 15 with ((with_reducible show wpList _ _ _ _ _ _); (refine wpList_store_row rfl 30 (.tmp 11) (.tmp 62) rfl w4.heap.size ca.toArray rfl rfl 30 _ (heap_alloc_new _ _) (by rw [SA.out]; kernel_rfl) (by rw [SA.out]; rfl) OA.out ?_; go_frame))
      obtain ⟨_, f2, f3, f4⟩ := fill_setup (Below.refl w4.heap.size w4) (List.replicate 32 (bV 0)).toArray ca.toArray 30
      generalize hqw5 : World.setRow _ _ _ = w5
      have ew5 : World.setRow (w4.alloc (.cells (List.replicate 32 (bV 0)).toArray 30)) w4.heap.size ca.toArray = w5 := hqw5
      rw [ew5] at f2 f3 f4
      obtain ⟨g11, hg11⟩ : ∃ g11, g11 = w4.heap.size := ⟨_, rfl⟩
      rw [← hg11] at f2 ⊢
      have F11 := Lib.hid f2
      have Ng11 : Hid (w4.heap.size ≤ g11) := by show _ ≤ _; rw [hg11]; exact Nat.le_refl _
      have CB := Lib.hid (CB.out.trans (f4.mono CB.out.size))
      clear f2 f3 f4 hqw5 ew5 hg11
      have RX := Lib.hid (range_below (HG.out s SN.out) (BZ.out.trans (CB.out.mono BZ.out.size)))
      have LX := Lib.hid (LH.out s)
      have RI := Lib.hid (rheadid_any (hdAt z s) (hdAt_ok z s))
      have p0 : 0 ≤ (s : Int) := by omega
      have p1 : (s : Int) < (nn : Int) := by have := SN.out; omega
      obtain ⟨cx, hcx⟩ : ∃ cx, cx = hdL (hdAt z s) := ⟨_, rfl⟩
      rw [← hcx] at RX LX RI
      rw [IBC.out] at RI
      clear hcx
      go_wp2_with fail
      refine (N2.out _).mono ?_
      rintro e w' ⟨rfl, rfl⟩
      go_wp2_with ((with_reducible show wpList _ _ _ _ _ _); (refine wpList_load_mid rfl 32 (.tmp 68) rfl bo (oo + s * 68) rfl cx _ RX.out Tryd.underlying32 rfl (by rw [LX.out]; kernel_rfl) ?_; go_frame))
      refine (RI.out _).mono ?_
      rintro e w6 ⟨rfl, bb⟩
      have CB := Lib.hid (CB.out.trans (bb.mono CB.out.size))
      have F11 := Lib.hid (row_below F11.out bb)
      clear bb RX LX RI p0 p1
      go_upto_region 16 with ((with_reducible show wpList _ _ _ _ _ _); (refine wpList_store_row rfl 30 (.tmp 12) (.tmp 70) rfl w6.heap.size cb.toArray rfl rfl 30 _ (heap_alloc_new _ _) (by rw [SB.out]; kernel_rfl) (by rw [SB.out]; rfl) OB.out ?_; go_frame))
      obtain ⟨_, f2, f3, f4⟩ := fill_setup (Below.refl w6.heap.size w6) (List.replicate 32 (bV 0)).toArray cb.toArray 30
      generalize hqw7 : World.setRow _ _ _ = w7
      have ew7 : World.setRow (w6.alloc (.cells (List.replicate 32 (bV 0)).toArray 30)) w6.heap.size cb.toArray = w7 := hqw7
      rw [ew7] at f2 f3 f4
      obtain ⟨g12, hg12⟩ : ∃ g12, g12 = w6.heap.size := ⟨_, rfl⟩
      rw [← hg12] at f2 ⊢
      have F12 := Lib.hid f2
      have Ng12 : Hid (w6.heap.size ≤ g12) := by show _ ≤ _; rw [hg12]; exact Nat.le_refl _
      have CB := Lib.hid (CB.out.trans (f4.mono CB.out.size))
      have F11 := Lib.hid (row_below F11.out f4)
      clear f2 f3 f4 hqw7 ew7 hg12
      clear N1 N2
      go_wp2_with ((with_reducible show wpList _ _ _ _ _ _); first | (refine wpList_load_row rfl 30 (.tmp 11) rfl g11 rfl 30 ca.toArray (0, 0) _ F11.out Tryd.underlying30 rfl (by rw [SA.out]; kernel_rfl) ?_; go_frame) | (refine wpList_load_row rfl 30 (.tmp 12) rfl g12 rfl 30 cb.toArray (0, 0) _ F12.out Tryd.underlying30 rfl (by rw [SB.out]; kernel_rfl) ?_; go_frame))
      refine (PAB.out _ CB.out).mono ?_
      rintro e w8 ⟨bb, ⟨hc, _⟩ | ⟨_, _, v1, v2, rfl, h1, h2⟩⟩
      · exfalso; omega
      rw [TP.out.back] at h1
      rw [TP.out.on] at h2
      obtain ⟨s1, k1, e1⟩ := h1.len'
      obtain ⟨s2, k2, e2⟩ := h2.len'
      rw [idsT_len (by have := TP.out.lb; omega)] at e1
      rw [List.length_reverse, idsT_len (by have := TP.out.lc; omega)] at e2
      subst e1 e2
      have P1 := Lib.hid h1
      have P2 := Lib.hid h2
      have CB := Lib.hid (CB.out.trans (bb.mono CB.out.size))
      have F11 := Lib.hid (row_below F11.out bb)
      have F12 := Lib.hid (row_below F12.out bb)
      clear bb h1 h2 PAB
      go_wp2_with ((with_reducible show wpList _ _ _ _ _ _); first | (refine wpList_load_row rfl 30 (.tmp 11) rfl g11 rfl 30 ca.toArray (0, 0) _ F11.out Tryd.underlying30 rfl (by rw [SA.out]; kernel_rfl) ?_; go_frame) | (refine wpList_load_row rfl 30 (.tmp 12) rfl g12 rfl 30 cb.toArray (0, 0) _ F12.out Tryd.underlying30 rfl (by rw [SB.out]; kernel_rfl) ?_; go_frame))
      refine (PBA.out _ CB.out).mono ?_
      rintro e w9 ⟨bb, ⟨hc, _⟩ | ⟨_, _, v1, v2, rfl, h1, h2⟩⟩
      · exfalso; omega
      rw [TP.out.down] at h1
      rw [TP.out.up] at h2
      obtain ⟨s3, k3, e1⟩ := h1.len'
      obtain ⟨s4, k4, e2⟩ := h2.len'
      rw [idsT_len (by have := TP.out.lc; omega)] at e1
      rw [List.length_reverse, idsT_len (by have := TP.out.lb; omega)] at e2
      subst e1 e2
      have WA : Hid (WaysAt w9 L (a1 : Int) (a2 : Int) nb nc s1 s2 s3 s4 k1 k2 k3 k4) := ⟨P1.out.below bb, P2.out.below bb, h1, h2⟩
      have CB := Lib.hid (CB.out.trans (bb.mono CB.out.size))
      have F11 := Lib.hid (row_below F11.out bb)
      have F12 := Lib.hid (row_below F12.out bb)
      clear bb h1 h2 PBA P1 P2
      go_wp2_with ((with_reducible show wpList _ _ _ _ _ _); first | (refine wpList_load_row rfl 30 (.tmp 11) rfl g11 rfl 30 ca.toArray (0, 0) _ F11.out Tryd.underlying30 rfl (by rw [SA.out]; kernel_rfl) ?_; go_frame) | (refine wpList_load_row rfl 30 (.tmp 12) rfl g12 rfl 30 cb.toArray (0, 0) _ F12.out Tryd.underlying30 rfl (by rw [SB.out]; kernel_rfl) ?_; go_frame))
      refine (PCO.out _ CB.out).mono ?_
      rintro e w10 ⟨⟨hc, _⟩ | ⟨_, _, rfl⟩, bb⟩
      · exfalso; omega
      have WA := Lib.hid (WA.out.below bb)
      have CB := Lib.hid (CB.out.trans (bb.mono CB.out.size))
      have F11 := Lib.hid (row_below F11.out bb)
      have F12 := Lib.hid (row_below F12.out bb)
      have LM : Hid ((meetT L (a1 : Int) (a2 : Int)).length = 32) := by show _ = _; rw [TP.out.mb]; exact upId_len TI.out.tr TI.out.hung LA1.out TP.out.lb
      have SM : Hid (((meetT L (a1 : Int) (a2 : Int)).map bV).toArray.size = 32) := by show _ = _; rw [List.size_toArray, List.length_map]; exact LM.out
      have OM : Hid (((meetT L (a1 : Int) (a2 : Int)).map bV).toArray.all (·.oneCell') = true) := bV_one _
      have SMM := Lib.hid (fun W => same_v (meetT L (a1 : Int) (a2 : Int)) (meetT L (a1 : Int) (a2 : Int)) true LM.out LM.out (decide_eq_true rfl).symm W)
      obtain ⟨cm, hcm⟩ : ∃ cm, cm = (meetT L (a1 : Int) (a2 : Int)).map bV := ⟨_, rfl⟩
      rw [← hcm] at SM OM SMM ⊢
      have CME := Lib.hid hcm
      clear bb PCO hcm
      go_upto_region 19 with ((with_reducible show wpList _ _ _ _ _ _); (refine wpList_store_row rfl 30 (.tmp 19) (.tmp 92) rfl w10.heap.size cm.toArray rfl rfl 30 _ (heap_alloc_new _ _) (by rw [SM.out]; kernel_rfl) (by rw [SM.out]; rfl) OM.out ?_; go_frame))
      obtain ⟨_, f2, f3, f4⟩ := fill_setup (Below.refl w10.heap.size w10) (List.replicate 32 (bV 0)).toArray cm.toArray 30
      generalize hqw11 : World.setRow _ _ _ = w11
      have ew11 : World.setRow (w10.alloc (.cells (List.replicate 32 (bV 0)).toArray 30)) w10.heap.size cm.toArray = w11 := hqw11
      rw [ew11] at f2 f3 f4
      obtain ⟨g19, hg19⟩ : ∃ g19, g19 = w10.heap.size := ⟨_, rfl⟩
      rw [← hg19] at f2 ⊢
      have F19 := Lib.hid f2
      have Ng19 : Hid (w10.heap.size ≤ g19) := by show _ ≤ _; rw [hg19]; exact Nat.le_refl _
      have CB := Lib.hid (CB.out.trans (f4.mono CB.out.size))
      have F11 := Lib.hid (row_below F11.out f4)
      have F12 := Lib.hid (row_below F12.out f4)
      have WA := Lib.hid (WA.out.below f4)
      clear f2 f3 f4 hqw11 ew11 hg19
      go_upto_region 22 with ((with_reducible show wpList _ _ _ _ _ _); first | (refine wpList_load_row rfl 30 (.tmp 11) rfl g11 rfl 30 ca.toArray (0, 0) _ F11.out Tryd.underlying30 rfl (by rw [SA.out]; kernel_rfl) ?_; go_frame) | (refine wpList_store_row rfl 30 (.tmp 21) (.tmp 118) rfl w11.heap.size ca.toArray rfl rfl 30 _ (heap_alloc_new _ _) (by rw [SA.out]; kernel_rfl) (by rw [SA.out]; rfl) OA.out ?_; go_frame))
      obtain ⟨_, f2, f3, f4⟩ := fill_setup (Below.refl w11.heap.size w11) (List.replicate 32 (bV 0)).toArray ca.toArray 30
      generalize hqw12 : World.setRow _ _ _ = w12
      have ew12 : World.setRow (w11.alloc (.cells (List.replicate 32 (bV 0)).toArray 30)) w11.heap.size ca.toArray = w12 := hqw12
      rw [ew12] at f2 f3 f4
      obtain ⟨g21, hg21⟩ : ∃ g21, g21 = w11.heap.size := ⟨_, rfl⟩
      rw [← hg21] at f2 ⊢
      have F21 := Lib.hid f2
      have Ng21 : Hid (w11.heap.size ≤ g21) := by show _ ≤ _; rw [hg21]; exact Nat.le_refl _
      have B12 := Lib.hid (f4)
      clear f2 f3 f4 hqw12 ew12 hg21
      have HT := Lib.hid (HT.out.below CB.out)
      have BW := Lib.hid (BW.out.trans (CB.out.mono BW.out.size))
      clear CB BZ BW0 HG LH RN SN
      have HH : Hid (∀ W, Below w11.heap.size w11 W → ∀ q n : Nat, q < L.length → n + 1 < (upL L (q : Int)).length → ∃ h, HdOk h ∧ h.prev = upId L (q : Int) (n + 1) ∧ Calls Tryd.prog 13 #[(.pointer (some ⟨b, 0, none⟩)), .agg ((upId L (q : Int) n).map bV).toArray] W fun e w' => e = .returned (.tuple #[.agg (hdL h).toArray, .bool true]) ∧ Below W.heap.size W w') := fun W hW q n hq hn => by
        obtain ⟨h, e1, e2, e3, e4⟩ := ofT_up TI.out.tr TI.out.hung hq hn
        have hc := cthead_any W base b mb M (upId L (q : Int) n) (HT.out.below hW) TR.out (upId_len TI.out.tr TI.out.hung hq (by omega))
        rw [ME.out, e1, e2] at hc
        exact ⟨h, e3, e4, hc⟩
      clear HT TR ME
      go_wp2_with fail
      go_loopw [22] (fun vi wr => TwI2 L (a1 : Int) nb g21 w11 vi wr) (fun vi _ => nb - (intOf vi).toNat)
      case atStart => exact ⟨0, rfl, Nat.zero_le _, by rw [U1.out, ← CAE.out]; exact F21.out, B12.out⟩
      case round =>
        clear F21 B12
        obtain ⟨n, rfl, hn, hg, hb⟩ := hrel
        have F21 := Lib.hid hg
        have B12 := Lib.hid hb
        clear hg hb
        by_cases hlt : n < nb
        · obtain ⟨h, hok, hpr, hc⟩ := HH.out wr B12.out a1 n LA1.out (by have := TP.out.lb; omega)
          have LU : Hid ((upId L (a1 : Int) n).length = 32) := upId_len TI.out.tr TI.out.hung LA1.out (by have := TP.out.lb; omega)
          have LV : Hid ((upId L (a1 : Int) (n + 1)).length = 32) := upId_len TI.out.tr TI.out.hung LA1.out (by have := TP.out.lb; omega)
          have SU : Hid (((upId L (a1 : Int) n).map bV).toArray.size = 32) := by show _ = _; rw [List.size_toArray, List.length_map]; exact LU.out
          have SV : Hid (((upId L (a1 : Int) (n + 1)).map bV).toArray.size = 32) := by show _ = _; rw [List.size_toArray, List.length_map]; exact LV.out
          have OV : Hid (((upId L (a1 : Int) (n + 1)).map bV).toArray.all (·.oneCell') = true) := bV_one _
          have LUC : Hid (((upId L (a1 : Int) n).map bV).length = 32) := by show _ = _; rw [List.length_map]; exact LU.out
          have LVC : Hid (((upId L (a1 : Int) (n + 1)).map bV).length = 32) := by show _ = _; rw [List.length_map]; exact LV.out
          have SMU := Lib.hid (fun W => same_v (upId L (a1 : Int) n) (upId L (a1 : Int) n) true LU.out LU.out (decide_eq_true rfl).symm W)
          obtain ⟨bA, oA, e1, _, gA⟩ := (WA.out.below B12.out).back.get (by omega)
          obtain ⟨bD, oD, e4, _, gD⟩ := (WA.out.below B12.out).up.get (by omega)
          subst e1 e4
          obtain ⟨p, hp⟩ : ∃ p, p = nb - 1 - n := ⟨_, rfl⟩
          have RA := gA n hlt
          have RD := gD p (by omega)
          rw [idsT_getD hlt (by have := TP.out.lb; omega)] at RA
          rw [rev_getD (idsT_len (by have := TP.out.lb; omega)) (by omega), idsT_getD (by omega) (by have := TP.out.lb; omega), show nb - 1 - p = n by omega] at RD
          have EP : Hid ((p : Int) = (nb : Int) - 1 - (n : Int)) := by show _ = _; omega
          have CH := Lib.hid hc
          have PRV : Hid (∀ (W : World) (g : Nat), W.heap[g]? = some (.cells (hdL h).toArray 32 (0, 0)) → W.rangeAt g 1 ((upId L (a1 : Int) (n + 1)).map bV)) := fun W g q => by rw [← hpr]; exact (HdBox.mk q).prev
          have LHH : Hid ((hdL h).toArray.size = 68) := hdL_size hok
          have OHH : Hid ((hdL h).toArray.all (·.oneCell') = true) := all_oneCell_toArray (hdL_one' _)
          obtain ⟨cu, hcu⟩ : ∃ cu, cu = (upId L (a1 : Int) n).map bV := ⟨_, rfl⟩
          obtain ⟨cv, hcv⟩ : ∃ cv, cv = (upId L (a1 : Int) (n + 1)).map bV := ⟨_, rfl⟩
          obtain ⟨ch, hch⟩ : ∃ ch, ch = hdL h := ⟨_, rfl⟩
          rw [← hcu] at F21 SU LUC SMU RA RD CH
          rw [← hcv] at SV OV LVC PRV
          rw [← hch] at CH PRV LHH OHH
          have CVE := Lib.hid hcv
          have RA := Lib.hid RA
          have RD := Lib.hid RD
          have LT := Lib.hid hlt
          have NBL : Hid (nb ≤ 4097) := by show _ ≤ _; have := TP.out.lb; have := UL.out; omega
          have q0 : 0 ≤ (n : Int) := by omega
          have q1 : (n : Int) < (nb : Int) := by omega
          have q2 : 0 ≤ (p : Int) := by omega
          have q3 : (p : Int) < (nb : Int) := by omega
          clear hn hc hok hpr hp hcu hcv hch gA gD hlt
          go_wp2_with ((with_reducible show wpList _ _ _ _ _ _); (refine wpList_load_row rfl 30 (.tmp 21) rfl g21 rfl 30 cu.toArray (0, 0) _ F21.out Tryd.underlying30 rfl (by rw [SU.out]; kernel_rfl) ?_; go_frame))
          refine CH.out.mono ?_
          rintro e w13 ⟨rfl, bb⟩
          have F21 := Lib.hid (row_below F21.out bb)
          have RA := Lib.hid (range_below RA.out bb)
          have RD := Lib.hid (range_below RD.out bb)
          have B13 := Lib.hid (B12.out.trans (bb.mono B12.out.size))
          clear bb CH B12
          go_upto_region 26 with ((with_reducible show wpList _ _ _ _ _ _); (refine wpList_store_row rfl 32 (.tmp 23) (.tmp 129) rfl w13.heap.size ch.toArray rfl rfl 32 _ (heap_alloc_new _ _) (by rw [LHH.out]; kernel_rfl) (by rw [LHH.out]; rfl) OHH.out ?_; go_frame))
          obtain ⟨_, f2, f3, f4⟩ := fill_setup (Below.refl w13.heap.size w13) (hdL hdZ).toArray ch.toArray 32
          generalize hqw14 : World.setRow _ _ _ = w14
          have ew14 : World.setRow (w13.alloc (.cells (hdL hdZ).toArray 32)) w13.heap.size ch.toArray = w14 := hqw14
          rw [ew14] at f2 f3 f4
          obtain ⟨g23, hg23⟩ : ∃ g23, g23 = w13.heap.size := ⟨_, rfl⟩
          rw [← hg23] at f2 ⊢
          have F23 := Lib.hid f2
          have Ng23 : Hid (w13.heap.size ≤ g23) := by show _ ≤ _; rw [hg23]; exact Nat.le_refl _
          have F21 := Lib.hid (row_below F21.out f4)
          have RA := Lib.hid (range_below RA.out f4)
          have RD := Lib.hid (range_below RD.out f4)
          have B13 := Lib.hid (B13.out.trans (f4.mono B13.out.size))
          clear f2 f3 f4 hqw14 ew14 hg23
          refine wp_region_held_drew (S := (fun w' => Below w14.heap.size w14 w')) (by kernel_rfl) (Below.drew (Below.refl _ _)) (fun hHeld => ?_)
          generalize hwd : w14.drew = wd at  hHeld ⊢
          clear hwd
          refine held_take (i := 0) (v := (.bool true)) rfl (by kernel_rfl) (by kernel_rfl) (by kernel_rfl) (fun _ _ _ h => h) (Or.inl ⟨by rfl, fun w' _ => by kernel_rfl⟩) hHeld ?_
          go_frame
          refine held_take (i := 1) (v := (.bool false)) rfl (by kernel_rfl) (by kernel_rfl) (by kernel_rfl) (fun _ _ _ h => h) (Or.inl ⟨by rfl, fun w' _ => by go_simp⟩) hHeld ?_
          go_frame
          refine held_take (i := 2) (v := (.bool false)) rfl (by kernel_rfl) (by kernel_rfl) (by kernel_rfl) (fun _ _ _ h => h) (Or.inl ⟨by rfl, fun w' _ => by kernel_rfl⟩) hHeld ?_
          go_frame
          refine held_take (i := 3) (v := (.slice (some ⟨bA, oA, none⟩) nb k1)) rfl (by kernel_rfl) (by kernel_rfl) (by kernel_rfl) (fun _ _ _ h => h) (Or.inl ⟨by rfl, fun w' _ => by kernel_rfl⟩) hHeld ?_
          go_frame
          refine held_take (i := 4) (v := (.int .i64 (n : Int))) rfl (by kernel_rfl) (by kernel_rfl) (by kernel_rfl) (fun _ _ _ h => h) (Or.inl ⟨by rfl, fun w' _ => by kernel_rfl⟩) hHeld ?_
          go_frame
          refine held_take (i := 5) (v := (.pointer (some ⟨bA, oA + n * 32, none⟩))) rfl (by kernel_rfl) (by kernel_rfl) (by kernel_rfl) (fun _ _ _ h => h) (Or.inl ⟨by rfl, fun w' _ => by go_simp⟩) hHeld ?_
          go_frame
          refine held_take (i := 6) (v := (.agg cu.toArray)) rfl (by kernel_rfl) (by kernel_rfl) (by kernel_rfl) (fun _ _ _ h => h) (Sha.yieldsIf_load_mid (by rfl) 30 (.tmp 136) rfl bA (oA + n * 32) rfl cu _ (fun w' hw' => range_below RA.out hw') Tryd.underlying30 rfl (by rw [LUC.out]; kernel_rfl)) hHeld ?_
          go_frame
          refine held_take (i := 7) (v := (.agg cu.toArray)) rfl (by kernel_rfl) (by kernel_rfl) (by kernel_rfl) (fun _ _ _ h => h) (yieldsIf_load_row (by rfl) 30 (.tmp 21) rfl g21 rfl 30 cu.toArray (0, 0) _ (fun w' hw' => row_below F21.out hw') Tryd.underlying30 rfl (by rw [SU.out]; kernel_rfl)) hHeld ?_
          go_frame
          refine wpAnyH_ready (rs := [8]) (by kernel_rfl) (by simp) (held_cons rfl (fun K hK => ?_) AllReadyH.nil)
          rw [if_pos (by rfl)]
          go_simp
          refine (SMU.out _).mono ?_
          rintro e v1 ⟨rfl, bb⟩
          have hv1 := hHeld.trans (bb.mono hHeld.size)
          clear bb hHeld
          go_wp2_with fail
          refine hK.out _ _ hv1 (fun hHeld => ?_)
          clear hK K hv1
          refine held_take (i := 9) (v := (.bool false)) rfl (by kernel_rfl) (by kernel_rfl) (by kernel_rfl) (fun _ _ _ h => h) (Or.inl ⟨by rfl, fun w' _ => by go_simp⟩) hHeld ?_
          go_frame
          refine held_take (i := 10) (v := (.bool false)) rfl (by kernel_rfl) (by kernel_rfl) (by kernel_rfl) (fun _ _ _ h => h) (Or.inl ⟨by rfl, fun w' _ => by go_simp⟩) hHeld ?_
          go_frame
          refine held_take (i := 11) (v := (.bool false)) rfl (by kernel_rfl) (by kernel_rfl) (by kernel_rfl) (fun _ _ _ h => h) (Or.inl ⟨by rfl, fun w' _ => by kernel_rfl⟩) hHeld ?_
          go_frame
          refine held_take (i := 12) (v := (.slice (some ⟨bA, oA, none⟩) nb k1)) rfl (by kernel_rfl) (by kernel_rfl) (by kernel_rfl) (fun _ _ _ h => h) (Or.inl ⟨by rfl, fun w' _ => by kernel_rfl⟩) hHeld ?_
          go_frame
          refine held_take (i := 13) (v := (.int .i64 (n : Int))) rfl (by kernel_rfl) (by kernel_rfl) (by kernel_rfl) (fun _ _ _ h => h) (Or.inl ⟨by rfl, fun w' _ => by kernel_rfl⟩) hHeld ?_
          go_frame
          refine held_take (i := 14) (v := (.pointer (some ⟨bA, oA + n * 32, none⟩))) rfl (by kernel_rfl) (by kernel_rfl) (by kernel_rfl) (fun _ _ _ h => h) (Or.inl ⟨by rfl, fun w' _ => by go_simp⟩) hHeld ?_
          go_frame
          refine held_take (i := 15) (v := (.agg cu.toArray)) rfl (by kernel_rfl) (by kernel_rfl) (by kernel_rfl) (fun _ _ _ h => h) (Sha.yieldsIf_load_mid (by rfl) 30 (.tmp 145) rfl bA (oA + n * 32) rfl cu _ (fun w' hw' => range_below RA.out hw') Tryd.underlying30 rfl (by rw [LUC.out]; kernel_rfl)) hHeld ?_
          go_frame
          refine held_take (i := 16) (v := (.slice (some ⟨bD, oD, none⟩) nb k4)) rfl (by kernel_rfl) (by kernel_rfl) (by kernel_rfl) (fun _ _ _ h => h) (Or.inl ⟨by rfl, fun w' _ => by kernel_rfl⟩) hHeld ?_
          go_frame
          refine held_take (i := 17) (v := (.slice (some ⟨bD, oD, none⟩) nb k4)) rfl (by kernel_rfl) (by kernel_rfl) (by kernel_rfl) (fun _ _ _ h => h) (Or.inl ⟨by rfl, fun w' _ => by kernel_rfl⟩) hHeld ?_
          go_frame
          refine held_take (i := 18) (v := (.int .i64 (nb : Int))) rfl (by kernel_rfl) (by kernel_rfl) (by kernel_rfl) (fun _ _ _ h => h) (Or.inl ⟨by rfl, fun w' _ => by go_simp⟩) hHeld ?_
          go_frame
          refine held_take (i := 19) (v := (.int .i64 ((nb : Int) - 1))) rfl (by kernel_rfl) (by kernel_rfl) (by kernel_rfl) (fun _ _ _ h => h) (Or.inl ⟨by rfl, fun w' _ => by go_simp <;> (try rw [IntKind.wrap_i64]) <;> (have h1 := EP.out; have h2 := NBL.out; omega)⟩) hHeld ?_
          go_frame
          refine held_take (i := 20) (v := (.int .i64 (n : Int))) rfl (by kernel_rfl) (by kernel_rfl) (by kernel_rfl) (fun _ _ _ h => h) (Or.inl ⟨by rfl, fun w' _ => by kernel_rfl⟩) hHeld ?_
          go_frame
          refine held_take (i := 21) (v := (.int .i64 (p : Int))) rfl (by kernel_rfl) (by kernel_rfl) (by kernel_rfl) (fun _ _ _ h => h) (Or.inl ⟨by rfl, fun w' _ => by go_simp <;> (try rw [IntKind.wrap_i64]) <;> (have h1 := EP.out; have h2 := NBL.out; omega)⟩) hHeld ?_
          go_frame
          refine held_take (i := 22) (v := (.pointer (some ⟨bD, oD + p * 32, none⟩))) rfl (by kernel_rfl) (by kernel_rfl) (by kernel_rfl) (fun _ _ _ h => h) (Or.inl ⟨by rfl, fun w' _ => by go_simp⟩) hHeld ?_
          go_frame
          refine held_take (i := 23) (v := (.agg cu.toArray)) rfl (by kernel_rfl) (by kernel_rfl) (by kernel_rfl) (fun _ _ _ h => h) (Sha.yieldsIf_load_mid (by rfl) 30 (.tmp 153) rfl bD (oD + p * 32) rfl cu _ (fun w' hw' => range_below RD.out hw') Tryd.underlying30 rfl (by rw [LUC.out]; kernel_rfl)) hHeld ?_
          go_frame
          refine wpAnyH_ready (rs := [24]) (by kernel_rfl) (by simp) (held_cons rfl (fun K hK => ?_) AllReadyH.nil)
          rw [if_pos (by rfl)]
          go_simp
          refine (SMU.out _).mono ?_
          rintro e v2 ⟨rfl, bb⟩
          have hv2 := hHeld.trans (bb.mono hHeld.size)
          clear bb hHeld
          go_wp2_with fail
          refine hK.out _ _ hv2 (fun hHeld => ?_)
          clear hK K hv2
          refine held_take (i := 25) (v := (.bool false)) rfl (by kernel_rfl) (by kernel_rfl) (by kernel_rfl) (fun _ _ _ h => h) (Or.inl ⟨by rfl, fun w' _ => by go_simp⟩) hHeld ?_
          go_frame
          refine held_take (i := 26) (v := (.bool false)) rfl (by kernel_rfl) (by kernel_rfl) (by kernel_rfl) (fun _ _ _ h => h) (Or.inl ⟨by rfl, fun w' _ => by go_simp⟩) hHeld ?_
          go_frame
          refine wpAnyH_done (by kernel_rfl) ?_ _
          obtain ⟨w16, hw16⟩ : ∃ w16, w16 = v2 := ⟨_, rfl⟩
          rw [← hw16] at  hHeld ⊢
          clear hw16
          have F21 := Lib.hid (row_below F21.out hHeld)
          have PV := Lib.hid (PRV.out _ _ (row_below F23.out hHeld))
          have B16 := Lib.hid (B13.out.trans (hHeld.mono B13.out.size))
          clear hHeld B13 F23 RA RD
          have n9 : n ≤ 4097 := by have := NBL.out; have := LT.out; omega
          go_wp2_with ((with_reducible show wpList _ _ _ _ _ _); first | (refine wpList_load_mid rfl 30 (.tmp 158) rfl g23 1 rfl cv _ PV.out Tryd.underlying30 rfl (by rw [LVC.out]; kernel_rfl) ?_; go_frame) | (refine wpList_store_row rfl 30 (.tmp 21) (.tmp 159) rfl g21 cv.toArray rfl rfl 30 _ F21.out (by rw [SV.out]; kernel_rfl) (by rw [SV.out, SU.out]) OV.out ?_; go_frame))
          go_roundw
          case rel => exact ⟨n + 1, by go_num, by have := LT.out; omega, by rw [← CVE.out]; exact setRow_heap _ _ _ _ _ _ F21.out, below_setRow B16.out (by have := Ng21.out; omega) _⟩
          case measure =>
            have := LT.out
            simp [intOf]
            omega
        · have e : n = nb := by omega
          subst e
          clear hn hlt
          have EM : Hid ((upId L (a1 : Int) n).map bV = cm) := by show _ = _; rw [CME.out, TP.out.mb]
          rw [EM.out] at F21
          have F19 := Lib.hid (row_below F19.out B12.out)
          go_wp2_with ((with_reducible show wpList _ _ _ _ _ _); first | (refine wpList_load_row rfl 30 (.tmp 21) rfl g21 rfl 30 cm.toArray (0, 0) _ F21.out Tryd.underlying30 rfl (by rw [SM.out]; kernel_rfl) ?_; go_frame) | (refine wpList_load_row rfl 30 (.tmp 19) rfl g19 rfl 30 cm.toArray (0, 0) _ F19.out Tryd.underlying30 rfl (by rw [SM.out]; kernel_rfl) ?_; go_frame))
          refine (SMM.out _).mono ?_
          rintro e w15 ⟨rfl, bb⟩
          have F21 := Lib.hid (row_below F21.out bb)
          have B15 := Lib.hid (B12.out.trans (bb.mono B12.out.size))
          clear bb F19 B12
          go_wp2_with fail
          go_loopw [25] (fun vi wr => TwI3 L (a2 : Int) nc g21 w11 vi wr) (fun vi _ => nc - (intOf vi).toNat)
          case atStart => exact ⟨0, rfl, Nat.zero_le _, by rw [Nat.sub_zero, ← TP.out.mc, ← CME.out]; exact F21.out, B15.out⟩
          case round =>
            clear F21 B15
            obtain ⟨n, rfl, hn, hg, hb⟩ := hrel
            have F21 := Lib.hid hg
            have B12 := Lib.hid hb
            clear hg hb
            by_cases hlt : n < nc
            · obtain ⟨q, hq⟩ : ∃ q, q = nc - 1 - n := ⟨_, rfl⟩
              have eq1 : nc - n = q + 1 := by omega
              rw [eq1] at F21
              obtain ⟨h, hok, hpr, hc⟩ := HH.out wr B12.out a2 q LA2.out (by have := TP.out.lc; omega)
              have LU : Hid ((upId L (a2 : Int) (q + 1)).length = 32) := upId_len TI.out.tr TI.out.hung LA2.out (by have := TP.out.lc; omega)
              have LV : Hid ((upId L (a2 : Int) q).length = 32) := upId_len TI.out.tr TI.out.hung LA2.out (by have := TP.out.lc; omega)
              have SU : Hid (((upId L (a2 : Int) (q + 1)).map bV).toArray.size = 32) := by show _ = _; rw [List.size_toArray, List.length_map]; exact LU.out
              have SV : Hid (((upId L (a2 : Int) q).map bV).toArray.size = 32) := by show _ = _; rw [List.size_toArray, List.length_map]; exact LV.out
              have OV : Hid (((upId L (a2 : Int) q).map bV).toArray.all (·.oneCell') = true) := bV_one _
              have LUC : Hid (((upId L (a2 : Int) (q + 1)).map bV).length = 32) := by show _ = _; rw [List.length_map]; exact LU.out
              have LVC : Hid (((upId L (a2 : Int) q).map bV).length = 32) := by show _ = _; rw [List.length_map]; exact LV.out
              have SMU := Lib.hid (fun W => same_v (upId L (a2 : Int) (q + 1)) (upId L (a2 : Int) (q + 1)) true LU.out LU.out (decide_eq_true rfl).symm W)
              obtain ⟨bB, oB, e2, _, gB⟩ := (WA.out.below B12.out).on.get (by omega)
              subst e2
              have RB := gB n hlt
              rw [rev_getD (idsT_len (by have := TP.out.lc; omega)) hlt, ← hq, idsT_getD (by omega) (by have := TP.out.lc; omega)] at RB
              have CH := Lib.hid hc
              have PRV : Hid (∀ (W : World) (g : Nat), W.heap[g]? = some (.cells (hdL h).toArray 32 (0, 0)) → W.rangeAt g 1 ((upId L (a2 : Int) (q + 1)).map bV)) := fun W g x => by rw [← hpr]; exact (HdBox.mk x).prev
              have LHH : Hid ((hdL h).toArray.size = 68) := hdL_size hok
              have OHH : Hid ((hdL h).toArray.all (·.oneCell') = true) := all_oneCell_toArray (hdL_one' _)
              obtain ⟨cu, hcu⟩ : ∃ cu, cu = (upId L (a2 : Int) (q + 1)).map bV := ⟨_, rfl⟩
              obtain ⟨cv, hcv⟩ : ∃ cv, cv = (upId L (a2 : Int) q).map bV := ⟨_, rfl⟩
              obtain ⟨ch, hch⟩ : ∃ ch, ch = hdL h := ⟨_, rfl⟩
              rw [← hcu] at F21 SU LUC SMU PRV
              rw [← hcv] at SV OV LVC RB CH
              rw [← hch] at CH PRV LHH OHH
              have CVE := Lib.hid hcv
              have RB := Lib.hid RB
              have LT := Lib.hid hlt
              have QE := Lib.hid hq
              have q0 : 0 ≤ (n : Int) := by omega
              have q1 : (n : Int) < (nc : Int) := by omega
              clear hn hc hok hpr hcu hcv hch gB hlt hq eq1
              go_wp2_with ((with_reducible show wpList _ _ _ _ _ _); (refine wpList_load_mid rfl 30 (.tmp 174) rfl bB (oB + n * 32) rfl cv _ RB.out Tryd.underlying30 rfl (by rw [LVC.out]; kernel_rfl) ?_; go_frame))
              refine CH.out.mono ?_
              rintro e w17 ⟨rfl, bb⟩
              have F21 := Lib.hid (row_below F21.out bb)
              have RB := Lib.hid (range_below RB.out bb)
              have B17 := Lib.hid (B12.out.trans (bb.mono B12.out.size))
              clear bb CH B12
              go_upto_region 35 with ((with_reducible show wpList _ _ _ _ _ _); (refine wpList_store_row rfl 32 (.tmp 26) (.tmp 177) rfl w17.heap.size ch.toArray rfl rfl 32 _ (heap_alloc_new _ _) (by rw [LHH.out]; kernel_rfl) (by rw [LHH.out]; rfl) OHH.out ?_; go_frame))
              obtain ⟨_, f2, f3, f4⟩ := fill_setup (Below.refl w17.heap.size w17) (hdL hdZ).toArray ch.toArray 32
              generalize hqw18 : World.setRow _ _ _ = w18
              have ew18 : World.setRow (w17.alloc (.cells (hdL hdZ).toArray 32)) w17.heap.size ch.toArray = w18 := hqw18
              rw [ew18] at f2 f3 f4
              obtain ⟨g26, hg26⟩ : ∃ g26, g26 = w17.heap.size := ⟨_, rfl⟩
              rw [← hg26] at f2 ⊢
              have F26 := Lib.hid f2
              have Ng26 : Hid (w17.heap.size ≤ g26) := by show _ ≤ _; rw [hg26]; exact Nat.le_refl _
              have F21 := Lib.hid (row_below F21.out f4)
              have RB := Lib.hid (range_below RB.out f4)
              have B17 := Lib.hid (B17.out.trans (f4.mono B17.out.size))
              clear f2 f3 f4 hqw18 ew18 hg26
              have PV := Lib.hid (PRV.out _ _ F26.out)
              go_wp2_with ((with_reducible show wpList _ _ _ _ _ _); first | (refine wpList_load_midG 30 (.tmp 182) rfl g26 1 rfl cu _ PV.out Tryd.underlying30 rfl (by rw [LUC.out]; kernel_rfl) rfl ?_; go_frame) | (refine wpList_load_rowG 30 (.tmp 21) rfl g21 rfl 30 cu.toArray (0, 0) _ F21.out Tryd.underlying30 rfl (by rw [SU.out]; kernel_rfl) rfl ?_; go_frame))
              refine (SMU.out _).mono ?_
              rintro e w19 ⟨rfl, bb⟩
              have F21 := Lib.hid (row_below F21.out bb)
              have RB := Lib.hid (range_below RB.out bb)
              have B19 := Lib.hid (B17.out.trans (bb.mono B17.out.size))
              clear bb PV F26 B17
              have n9 : n ≤ 4097 := by have := TP.out.lc; have := UL.out; have := LT.out; omega
              go_wp2_with ((with_reducible show wpList _ _ _ _ _ _); first | (refine wpList_load_mid rfl 30 (.tmp 190) rfl bB (oB + n * 32) rfl cv _ RB.out Tryd.underlying30 rfl (by rw [LVC.out]; kernel_rfl) ?_; go_frame) | (refine wpList_store_row rfl 30 (.tmp 21) (.tmp 191) rfl g21 cv.toArray rfl rfl 30 _ F21.out (by rw [SV.out]; kernel_rfl) (by rw [SV.out, SU.out]) OV.out ?_; go_frame))
              go_roundw
              case rel => exact ⟨n + 1, by go_num, by have := LT.out; omega, by rw [show nc - (n + 1) = q by have := QE.out; omega, ← CVE.out]; exact setRow_heap _ _ _ _ _ _ F21.out, below_setRow B19.out (by have := Ng21.out; omega) _⟩
              case measure =>
                have := LT.out
                simp [intOf]
                omega
            · have e : n = nc := by omega
              subst e
              clear hn hlt
              rw [Nat.sub_self, U2.out, ← CBE.out] at F21
              have F12 := Lib.hid (row_below F12.out B12.out)
              have SBB := Lib.hid (fun W => same_v c2.id c2.id true L2.out L2.out (decide_eq_true rfl).symm W)
              rw [← CBE.out] at SBB
              go_wp2_with ((with_reducible show wpList _ _ _ _ _ _); first | (refine wpList_load_rowG 30 (.tmp 21) rfl g21 rfl 30 cb.toArray (0, 0) _ F21.out Tryd.underlying30 rfl (by rw [SB.out]; kernel_rfl) rfl ?_; go_frame) | (refine wpList_load_rowG 30 (.tmp 12) rfl g12 rfl 30 cb.toArray (0, 0) _ F12.out Tryd.underlying30 rfl (by rw [SB.out]; kernel_rfl) rfl ?_; go_frame))
              refine (SBB.out _).mono ?_
              rintro e w20 ⟨rfl, bb⟩
              have B20 := Lib.hid ((BW.out.trans (B12.out.mono BW.out.size)).trans (bb.mono (Nat.le_trans BW.out.size B12.out.size)))
              clear bb F21 F12 B12
              go_wp2_with fail
              go_ret
              exact ⟨rfl, B20.out⟩
end Go.Proofs.YtnhmjlljnckieaaDoor.Sha
