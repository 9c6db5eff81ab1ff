/-
  Texts of this proof joined into one file: TxId, HdId, MkRow0, MkRow, MkRoot, MkPath0, HsCopy, MkCalls, BlIds, SpLock, BlStart, BlTwice, HdCheck. What each holds, and under which conditions, its own first sentence tells.
-/
import Derived.IntWalk
import Derived.Maps.AppendAt
import Derived.Test.YtcghbogkplcohaaDoorMg05
import Derived.Test.YtcghbogkplcohaaDoorMg12
import Derived.Test.YtcghbogkplcohaaDoorMg11
import Derived.Test.YtcghbogkplcohaaDoorMg06
import Derived.Test.YtcghbogkplcohaaDoorMg08
import Derived.Test.YtcghbogkplcohaaDoorMg09
import Derived.Test.YtcghbogkplcohaaDoorMg02
import Derived.Test.YtcghbogkplcohaaDoorMg04
import Derived.Test.YtcghbogkplcohaaDoorMg07
import Derived.Test.YtcghbogkplcohaaDoorMg01
import Derived.Test.YtcghbogkplcohaaDoorMg03
/-
  Package tx tells whether two transactions have the same bytes, and the digest that a transaction goes by, given what Bytes answers. Nothing that was there turns. Condition: transactions of a few inputs and outputs that lie in memory.
-/
namespace Go.Proofs.YtcghbogkplcohaaDoor.Sha
open Go Go.RowKit
theorem txs_differ {t u : TTx} (ht : TxSmall t) (hu : TxSmall u) : txB t = txB u ↔ t = u := ⟨fun h => txB_inj ht.fit hu.fit h, fun h => by rw [h]⟩
set_option maxHeartbeats 1000000 in
set_option maxRecDepth 100000 in
theorem id_of (HBy : BytesC) : IdC := by
  intro t v w hk h1 hs
  have H1 := Lib.hid h1
  obtain ⟨_, iv, ov, rfl, _, _⟩ := h1
  have HK := Lib.hid hk
  have TS := Lib.hid hs
  have HBy := Lib.hid HBy
  clear hk hs
  have HOne := Lib.hid (bV_one (sha (sha (txB t))))
  have HLen : Hid ((((sha (sha (txB t))).map bV).toArray).size = 32) := by show _ = _; simp [sha_length]
  obtain ⟨dg, hdg⟩ : ∃ dg, dg = ((sha (sha (txB t))).map bV).toArray := ⟨_, rfl⟩
  rw [← hdg] at HOne HLen ⊢
  have HD := Lib.hid hdg
  clear hdg
  go_enter Tryd.func27, Tryd.ntmps27
  go_upto_region 1 with fail
  have f1 := row_below (heap_alloc_new w (.cells (txL t iv ov).toArray 32 (0, 0))) ((Below.refl _ _).alloc (Nat.le_refl _) (.cells (List.replicate 32 (bV 0)).toArray 23))
  have f2 := heap_alloc_new (w.alloc (.cells (txL t iv ov).toArray 32 (0, 0))) (.cells (List.replicate 32 (bV 0)).toArray 23)
  have b1 := ((Below.refl w.heap.size w).alloc (Nat.le_refl _) (.cells (txL t iv ov).toArray 32 (0, 0))).alloc (by simp) (.cells (List.replicate 32 (bV 0)).toArray 23)
  rw [World.size_alloc] at f2
  generalize hw1 : World.alloc _ _ = w1
  have e1 : (w.alloc (.cells (txL t iv ov).toArray 32 (0, 0))).alloc (.cells (List.replicate 32 (bV 0)).toArray 23) = w1 := hw1
  rw [e1] at f1 f2 b1
  have F1 := Lib.hid f1
  have F2 := Lib.hid f2
  have B1 := Lib.hid b1
  clear f1 f2 b1 hw1 e1
  go_wp2_with ((with_reducible show wpList _ _ _ _ _ _); refine wpList_load_row rfl 32 (.tmp 1) rfl w.heap.size rfl 32 (txL t iv ov).toArray (0, 0) _ F1.out Tryd.underlying32 rfl (by kernel_rfl) ?_; go_frame)
  refine (HBy.out t _ w1 (H1.out.below B1.out) TS.out).mono ?_
  rintro e w2 ⟨v2, rfl, ho, hb2⟩
  have S2 := Lib.hid (src_own ho)
  have B2 := Lib.hid (B1.out.trans (hb2.mono B1.out.size))
  have F2 := Lib.hid (row_below F2.out hb2)
  have HLn : Hid ((txB t).length ≤ 576460752303423487) := Nat.le_trans TS.out.len (by omega)
  clear ho hb2
  go_wp2_with fail
  have TW := twice_any (txB t) v2 w2 (HK.out.below B2.out) S2.out HLn.out
  rw [← HD.out] at TW
  refine TW.mono ?_
  rintro e w3 ⟨rfl, hb3⟩
  clear TW
  have B3 := Lib.hid (B2.out.trans (hb3.mono B2.out.size))
  have F3 := Lib.hid (row_below F2.out hb3)
  clear hb3
  go_wp2_with ((with_reducible show wpList _ _ _ _ _ _); refine wpList_store_row rfl 23 (.tmp 2) (.tmp 5) rfl (w.heap.size + 1) dg rfl rfl 23 _ F3.out (by rw [HLen.out]; kernel_rfl) (by rw [HLen.out]; rfl) HOne.out ?_; go_frame)
  refine bodyPost_ret (results_cell_row rfl _ _ (w.heap.size + 1) 23 dg (0, 0) (.array 32 5) rfl (setRow_heap _ _ _ _ _ _ F3.out) Tryd.underlying23 rfl (by rw [HLen.out]; kernel_rfl)) rfl ⟨rfl, below_setRow B3.out (Nat.le_succ _) _⟩
end Go.Proofs.YtcghbogkplcohaaDoor.Sha

/-
  Package head answers the digest that a header goes by. Nothing that was there turns. Conditions: a header of digests of 32 bytes, the table is there.
-/
namespace Go.Proofs.YtcghbogkplcohaaDoor.Sha
open Go Go.RowKit
/-- A header's digest. -/
def hdId (h : THd) : List UInt8 := sha (sha (hdB h))
theorem hdId_length (h : THd) : (hdId h).length = 32 := sha_length _
end Go.Proofs.YtcghbogkplcohaaDoor.Sha

/-
  What a loop over a row of digests keeps; a load that may come first. No conditions.
-/
namespace Go.Proofs.YtcghbogkplcohaaDoor.Sha
open Go Go.RowKit
def RaInv (l : List (List UInt8)) (n : Nat) (w : World) (vs vi : Value) (wr : World) : Prop :=
  ∃ (k j : Nat) (vb : Value), vb = vs ∧ j ≤ n + 1 ∧ j = 2 * k ∧ vi = .int .i64 j ∧ HsOwn w.heap.size wr vb ((rowL prH l).take k) ∧ Below w.heap.size w wr
end Go.Proofs.YtcghbogkplcohaaDoor.Sha

/-
  The row above a row of digests: package merkle's, and the statements' own. New memory; nothing that was there turns. Conditions: the digests lie where the slice says; for package merkle's the table is there.
-/
namespace Go.Proofs.YtcghbogkplcohaaDoor.Sha
open Go Go.RowKit
set_option maxHeartbeats 4000000 in
set_option maxRecDepth 100000 in
theorem row_above (l : List (List UInt8)) (sp : Option Addr) (n cap : Nat) (w : World) (hk : KTab w) (hl : HsAt w (.slice sp n cap) l) (hn : n ≤ 1048576) :
    Calls Tryd.prog 31 #[.slice sp n cap] w fun e w' => ∃ v, e = .returned v ∧ HsOwn w.heap.size w' v (rowL prH l) ∧ Below w.heap.size w w' := by
  obtain ⟨i0, hi, hz0, hz1, hz2⟩ := info_parts info_hash
  have hln := hl.len
  have hok := hl.1
  have HOK := Lib.hid hok
  have HLN := Lib.hid hln.1
  have HL := Lib.hid hl
  have LROW := Lib.hid (rowL_length prH l)
  obtain ⟨m, hm⟩ : ∃ m, m = (n + 1) / 2 := ⟨_, rfl⟩
  have hmb : m ≤ 1048576 := by omega
  have hm2 : 2 * m = n ∨ 2 * m = n + 1 := by omega
  have HK := Lib.hid hk
  have HMM := Lib.hid hm
  clear hl hln hok hm hk
  go_enter Tryd.func31, Tryd.ntmps31
  go_wp2_with (first | (go_at_call 44; refine (half_any n (by omega) _).mono ?_; rintro e w' ⟨rfl, rfl⟩; rw [← HMM.out]) | (at_make; refine wpList_make_own _ rfl _ _ 54 rfl w.heap.size 23 i0 (.agg (List.replicate 32 (bV 0)).toArray) 32 Tryd.underlying54 hi hz0 hz1 _ _ _ m rfl rfl rfl (by rw [hz2]; omega) (by unfold maxLen; omega) (Nat.le_refl _) ?_; intro w2 hown hgrow; have HO0 := Lib.hid hown; have HG0 := Lib.hid hgrow; clear hown hgrow; go_frame))
  have HB0 := Lib.hid ((Below.refl _ _).grown HG0.out (Nat.le_refl _) (fun k hk => by cases hk))
  have HST : Hid (HsOwn w.heap.size w2 (.slice (some ⟨w.heap.size, 0, none⟩) 0 m) ((rowL prH l).take 0)) := ⟨HO0.out, fun x hx => by simp at hx⟩
  clear HO0 HG0
  go_loopw [3, 4] (fun vs vi wr => RaInv l n w vs vi wr) (fun _ vi _ => n + 1 - (intOf vi).toNat)
  case atStart => exact ⟨0, 0, _, rfl, by omega, by omega, rfl, HST.out, HB0.out⟩
  case round =>
    clear HST HB0
    obtain ⟨k, j, vb, rfl, hj1, hj, rfl, ho, hb⟩ := hrel
    have HO := Lib.hid ho
    have HB := Lib.hid hb
    have HJ := Lib.hid hj
    clear ho hb
    by_cases hlt : j < n
    · obtain ⟨b, o, rfl, hbw, hg⟩ := HL.out.get (by omega)
      obtain ⟨p, hp⟩ : ∃ p, p = otherN j n := ⟨_, rfl⟩
      have hpn : p < n := by rw [hp]; exact otherN_lt hlt
      obtain ⟨x, hx⟩ : ∃ x, x = l.getD j [] := ⟨_, rfl⟩
      obtain ⟨y, hy⟩ : ∃ y, y = l.getD p [] := ⟨_, rfl⟩
      have HX := Lib.hid (hg j hlt)
      have HY := Lib.hid (hg p hpn)
      rw [← hx] at HX
      rw [← hy] at HY
      have lx : x.length = 32 := by rw [hx]; exact HOK.out.get (by have := HLN.out; omega)
      have ly : y.length = 32 := by rw [hy]; exact HOK.out.get (by have := HLN.out; omega)
      have LX' := Lib.hid lx
      have LY' := Lib.hid ly
      have LX := Lib.hid (show x.length = 32 from lx)
      have LY := Lib.hid (show y.length = 32 from ly)
      have LP : Hid (((prH x y).map bV).length = 32) := by show _ = _; rw [List.length_map, prH_length]
      have lk : ((rowL prH l).take k).length ≤ 1048576 := by rw [List.length_take]; omega
      have LK := Lib.hid lk
      have ht : (rowL prH l).take (k + 1) = (rowL prH l).take k ++ [prH x y] := by
        have hkl : k < (rowL prH l).length := by rw [LROW.out]; have := HLN.out; omega
        have e := rowL_get prH [] l k (by have := HLN.out; omega)
        rw [List.getD_eq_getElem?_getD, List.getElem?_eq_getElem hkl] at e
        simp only [Option.getD_some] at e
        have e2 : otherN j n = if j + 1 < l.length then j + 1 else j := by
          unfold otherN
          rw [if_neg (show ¬ j % 2 = 1 by omega), ← HLN.out]
        rw [List.take_succ_eq_append_getElem hkl, e, hx, hy, hp, ← hj, e2]
      have HT := Lib.hid ht
      have HP := Lib.hid hp
      have p0 : 0 ≤ (j : Int) := by omega
      have q0 : (j : Int) < (n : Int) := by omega
      have p1 : 0 ≤ (p : Int) := by omega
      have q1 : (p : Int) < (n : Int) := by omega
      have wj : IntKind.i64.wrap ((j : Int) + 2) = (j : Int) + 2 := IntWalk.i64_in _ (by omega)
      clear hg hx hy hp hj lx ly ht lk
      go_wp2_with fail
      refine wp_region_held_drew (S := (fun w' => Below w.heap.size w w')) (by kernel_rfl) (Below.drew HB.out) (fun hHeld => ?_)
      have HO3 := Lib.hid (HO.out.keep (Below.drew (Below.refl wr.heap.size wr)))
      clear HO HB
      refine held_take (i := 0) (v := vb) rfl (by kernel_rfl) (by kernel_rfl) (by kernel_rfl) (fun _ _ _ h => h) (Or.inl ⟨by rfl, fun w' _ => by kernel_rfl⟩) hHeld ?_
      go_frame
      refine held_take (i := 1) (v := (.slice (some ⟨b, o, none⟩) n cap)) rfl (by kernel_rfl) (by kernel_rfl) (by kernel_rfl) (fun _ _ _ h => h) (Or.inl ⟨by rfl, fun w' _ => by kernel_rfl⟩) hHeld ?_
      go_frame
      refine held_take (i := 2) (v := (.int .i64 (j : Int))) rfl (by kernel_rfl) (by kernel_rfl) (by kernel_rfl) (fun _ _ _ h => h) (Or.inl ⟨by rfl, fun w' _ => by kernel_rfl⟩) hHeld ?_
      go_frame
      refine held_take (i := 3) (v := (.pointer (some ⟨b, o + j * 32, none⟩))) rfl (by kernel_rfl) (by kernel_rfl) (by kernel_rfl) (fun _ _ _ h => h) (Or.inl ⟨by rfl, fun w' _ => by go_simp⟩) hHeld ?_
      go_frame
      refine held_take (i := 4) (v := (.agg (x.map bV).toArray)) rfl (by kernel_rfl) (by kernel_rfl) (by kernel_rfl) (fun _ _ _ h => h) (yieldsIf_load_mid (by rfl) 23 (.tmp 18) rfl b (o + j * 32) rfl (x.map bV) _ (fun w' hw' => range_below HX.out hw') Tryd.underlying23 rfl (by rw [List.length_map, LX.out]; kernel_rfl)) hHeld ?_
      go_frame
      refine held_take (i := 5) (v := (.slice (some ⟨b, o, none⟩) n cap)) rfl (by kernel_rfl) (by kernel_rfl) (by kernel_rfl) (fun _ _ _ h => h) (Or.inl ⟨by rfl, fun w' _ => by kernel_rfl⟩) hHeld ?_
      go_frame
      refine held_take (i := 6) (v := (.int .i64 (j : Int))) rfl (by kernel_rfl) (by kernel_rfl) (by kernel_rfl) (fun _ _ _ h => h) (Or.inl ⟨by rfl, fun w' _ => by kernel_rfl⟩) hHeld ?_
      go_frame
      refine held_take (i := 7) (v := (.slice (some ⟨b, o, none⟩) n cap)) rfl (by kernel_rfl) (by kernel_rfl) (by kernel_rfl) (fun _ _ _ h => h) (Or.inl ⟨by rfl, fun w' _ => by kernel_rfl⟩) hHeld ?_
      go_frame
      refine held_take (i := 8) (v := (.int .i64 (n : Int))) rfl (by kernel_rfl) (by kernel_rfl) (by kernel_rfl) (fun _ _ _ h => h) (Or.inl ⟨by rfl, fun w' _ => by kernel_rfl⟩) hHeld ?_
      go_frame
      refine wpAnyH_ready (rs := [9]) (by kernel_rfl) (by simp) (held_cons rfl (fun K hK => ?_) AllReadyH.nil)
      go_simp
      refine (partner_any j n (by omega) (by omega) _).mono ?_
      rintro e w4 ⟨rfl, rfl⟩
      rw [← HP.out]
      go_wp2_with fail
      refine hK.out _ _ hHeld (fun hHeld => ?_)
      clear hK K
      refine held_take (i := 10) (v := (.pointer (some ⟨b, o + p * 32, none⟩))) rfl (by kernel_rfl) (by kernel_rfl) (by kernel_rfl) (fun _ _ _ h => h) (Or.inl ⟨by rfl, fun w' _ => by go_simp⟩) hHeld ?_
      go_frame
      refine held_take (i := 11) (v := (.agg (y.map bV).toArray)) rfl (by kernel_rfl) (by kernel_rfl) (by kernel_rfl) (fun _ _ _ h => h) (yieldsIf_load_mid (by rfl) 23 (.tmp 25) rfl b (o + p * 32) rfl (y.map bV) _ (fun w' hw' => range_below HY.out hw') Tryd.underlying23 rfl (by rw [List.length_map, LY.out]; kernel_rfl)) hHeld ?_
      go_frame
      refine wpAnyH_ready (rs := [12]) (by kernel_rfl) (by simp) (held_cons rfl (fun K hK => ?_) AllReadyH.nil)
      go_simp
      refine (join_any x y LX'.out LY'.out _ (HK.out.below hHeld)).mono ?_
      rintro e w4 ⟨rfl, bb⟩
      have HO4 := Lib.hid (HO3.out.keep bb)
      have hw4 := hHeld.trans (bb.mono hHeld.size)
      clear bb hHeld
      go_wp2_with fail
      refine hK.out _ _ hw4 (fun hHeld => ?_)
      clear hK K hw4
      refine wpAnyH_ready (rs := [13]) (by kernel_rfl) (by simp) (held_cons rfl (fun K hK => ?_) AllReadyH.nil)
      rw [if_pos (by rfl)]
      refine wp_slice_one 54 23 (.tmp 27) rfl ((prH x y).map bV) rfl Tryd.underlying54 i0 _ hi hz0 (by rw [hz1, LP.out]) (by rw [LP.out]; omega) (by rw [LP.out]; omega) ?_
      have nf := heap_alloc_new w4 (.cells ((prH x y).map bV).toArray 23 (0, 0))
      have bb := (Below.refl w4.heap.size w4).alloc (Nat.le_refl _) (.cells ((prH x y).map bV).toArray 23 (0, 0))
      obtain ⟨gn, hgn⟩ : ∃ gn, gn = w4.heap.size := ⟨_, rfl⟩
      generalize hw5 : World.alloc _ _ = w5
      have e5 : w4.alloc (.cells ((prH x y).map bV).toArray 23 (0, 0)) = w5 := hw5
      rw [e5] at nf bb
      rw [← hgn] at nf ⊢
      have NF := Lib.hid nf
      have HO5 := Lib.hid (HO4.out.keep bb)
      have hb5 := hHeld.trans (bb.mono hHeld.size)
      clear nf bb hw5 e5 hgn hHeld
      go_frame
      refine hK.out _ _ hb5 (fun hHeld => ?_)
      clear hK K hb5
      refine wpAnyH_ready (rs := [14]) (by kernel_rfl) (by simp) (held_cons rfl (fun K hK => ?_) AllReadyH.nil)
      rw [if_pos (by rfl)]
      refine wp_append_row w5 (.tmp 15) (.tmp 28) 54 rfl w.heap.size 23 i0 (.agg (List.replicate 32 (bV 0)).toArray) 32 32 Tryd.underlying54 hi hz0 hz1 hz2 (by kernel_rfl) (by decide) vb _ (hsL ((rowL prH l).take k)) rfl HO5.out.1 ⟨gn, 0, none⟩ 1 1 ((prH x y).map bV) rfl (by rw [LP.out]) (hs_one NF.out) (bV_one' _) (by have := LK.out; unfold maxLen; omega) (by have := LK.out; omega) hHeld.size ?_
      intro v6 w6 q1 q2 _
      have HO6 := Lib.hid (HsOwn.push (base := w.heap.size) HO5.out.2 (prH_length x y) q1)
      have hb6 := own_grown hHeld (Nat.le_refl _) hHeld.size HO5.out.1 q2
      clear q1 q2 hHeld
      go_frame
      refine hK.out _ _ hb6 (fun hHeld => ?_)
      clear hK K hb6
      refine held_take (i := 15) (v := v6) rfl (by kernel_rfl) (by kernel_rfl) (by kernel_rfl) (fun _ _ _ h => h) (Or.inl ⟨by rfl, fun w' _ => by kernel_rfl⟩) hHeld ?_
      go_frame
      refine wpAnyH_done (by kernel_rfl) ?_ _
      have HB6 := Lib.hid hHeld
      clear hHeld
      go_wp2_with fail
      go_roundw
      case rel =>
        refine ⟨k + 1, j + 2, _, rfl, by omega, by have := HJ.out; omega, by go_num, ?_, HB6.out⟩
        rw [HT.out]
        exact HO6.out
      case measure => simp [intOf]; omega
    · have HF : Hid (HsOwn w.heap.size wr vb (rowL prH l)) := by
        have h := HO.out
        rw [List.take_of_length_le (by rw [LROW.out]; have := HLN.out; omega)] at h
        exact h
      have hge : ¬ (j : Int) < (n : Int) := by omega
      clear HO hj
      go_wp2_with fail
      go_ret
      exact ⟨_, rfl, HF.out, HB.out⟩
end Go.Proofs.YtcghbogkplcohaaDoor.Sha

/-
  merkle.Root answers the root. Nothing that was there turns. Conditions: the digests lie where the slice says, the table is there; at most 2^20 of them.
-/
namespace Go.Proofs.YtcghbogkplcohaaDoor.Sha
open Go Go.RowKit
def rootInv (R : List UInt8) (w : World) (vl : Value) (wr : World) : Prop :=
  ∃ l' : List (List UInt8), HsAt wr vl l' ∧ 1 ≤ l'.length ∧ l'.length ≤ 1048576 ∧ rootL prH zM l' = R ∧ Below w.heap.size w wr ∧ wr.heap[w.heap.size]? = some (.cells (List.replicate 32 (bV 0)).toArray 23 (0, 0))
set_option maxHeartbeats 2000000 in
set_option maxRecDepth 100000 in
theorem root_any (l : List (List UInt8)) (sp : Option Addr) (n cap : Nat) (w : World) (hk : KTab w) (hl : HsAt w (.slice sp n cap) l) (hn : n ≤ 1048576) :
    Calls Tryd.prog 17 #[.slice sp n cap] w fun e w' => e = .returned (.agg ((rootL prH zM l).map bV).toArray) ∧ Below w.heap.size w w' := by
  have hlen := rootL_len _ l rfl hl.1
  have hln := hl.len.1
  have h0r : n = 0 → rootL prH zM l = zM := fun h => by
    rw [rootL_one prH zM (by omega), List.getD_eq_getElem?_getD, List.getElem?_eq_none (by omega)]
    rfl
  obtain ⟨R, hR⟩ : ∃ R, R = rootL prH zM l := ⟨_, rfl⟩
  rw [← hR] at hlen h0r ⊢
  have HR := Lib.hid hR
  have HS : Hid ((R.map bV).toArray.size = 32) := by show _ = _; simp [hlen]
  have HLR : Hid ((R.map bV).length = 32) := by show _ = _; simp [hlen]
  have HZ := Lib.hid h0r
  have HL := Lib.hid hl
  have HN := Lib.hid hln
  have HK := Lib.hid hk
  clear hR hlen hl hln h0r hk
  go_enter Tryd.func17, Tryd.ntmps17
  go_upto_region 1 with fail
  have F := Lib.hid (heap_alloc_new w (.cells (List.replicate 32 (bV 0)).toArray 23 (0, 0)))
  have B := Lib.hid ((Below.refl w.heap.size w).alloc (Nat.le_refl _) (.cells (List.replicate 32 (bV 0)).toArray 23 (0, 0)))
  generalize hw1 : World.alloc _ _ = w1
  have e1 : w.alloc (.cells (List.replicate 32 (bV 0)).toArray 23 (0, 0)) = w1 := hw1
  rw [e1] at F B
  clear hw1 e1
  by_cases h0 : n = 0
  · have t0 : ((n : Int) == 0) = true := by rw [beq_iff_eq]; omega
    obtain rfl : R = zM := HZ.out h0
    clear h0
    go_wp2_with ((with_reducible show wpList _ _ _ _ _ _); refine wpList_store_row rfl 23 (.tmp 2) (.tmp 6) rfl w.heap.size (zM.map bV).toArray rfl rfl 23 _ F.out (by rw [HS.out]; kernel_rfl) (by rw [HS.out]; rfl) (bV_one _) ?_; go_frame)
    refine bodyPost_ret (results_cell_row rfl _ _ w.heap.size 23 (zM.map bV).toArray (0, 0) (.array 32 5) rfl (setRow_heap _ _ _ _ _ _ F.out) Tryd.underlying23 rfl (by rw [HS.out]; kernel_rfl)) rfl ⟨rfl, below_setRow B.out (Nat.le_refl _) _⟩
  · have t0 : ((n : Int) == 0) = false := by rw [beq_eq_false_iff_ne]; omega
    have h1 : 1 ≤ n := by omega
    clear h0
    go_wp2_with fail
    go_loopw [0] (fun vl wr => rootInv R w vl wr) (fun vl _ => slLen vl)
    case atStart => exact ⟨l, HL.out.below B.out, by have := HN.out; omega, by have := HN.out; omega, HR.out.symm, B.out, F.out⟩
    case round =>
      clear F B HL HN HR
      obtain ⟨l', hl, hm1, hm2, hr, hb, hf⟩ := hrel
      obtain ⟨sp', cap', rfl⟩ := hl.shape
      obtain ⟨m, hm⟩ : ∃ m, m = l'.length := ⟨_, rfl⟩
      rw [← hm] at hl hm1 hm2 ⊢
      have HL := Lib.hid hl
      have HM := Lib.hid hm
      have HR := Lib.hid hr
      have B := Lib.hid hb
      have F := Lib.hid hf
      clear hl hm hr hb hf
      by_cases h1m : 1 < m
      · have t1 : (m : Int) > 1 := by omega
        go_wp2_with fail
        refine (row_above l' sp' m cap' _ (HK.out.below B.out) HL.out hm2).mono ?_
        rintro e w2 ⟨v2, rfl, ho, hb2⟩
        obtain ⟨sp2, cap2, rfl⟩ := ho.at.shape
        obtain ⟨m2, hm3⟩ : ∃ m2, m2 = (rowL prH l').length := ⟨_, rfl⟩
        have hm4 : m2 = (m + 1) / 2 := by rw [hm3, rowL_length, ← HM.out]
        have HO := Lib.hid ho
        rw [← hm3] at HO ⊢
        have HM3 := Lib.hid hm3
        have B2 := Lib.hid (B.out.trans (hb2.mono B.out.size))
        have F2 := Lib.hid (row_below F.out hb2)
        have hm5 : 1 ≤ m2 := by omega
        have hm6 : m2 < m := by omega
        have HR2 : Hid (rootL prH zM (rowL prH l') = R) := by
          show _ = _
          rw [← rootL_more prH zM (by rw [← HM.out]; exact h1m)]
          exact HR.out
        clear ho hm3 hb2 hm4
        go_wp2_with fail
        go_roundw
        case rel => exact ⟨rowL prH l', HO.out.at, by rw [← HM3.out]; exact hm5, by rw [← HM3.out]; omega, HR2.out, B2.out, F2.out⟩
        case measure => exact hm6
      · have t1 : ¬ (m : Int) > 1 := by omega
        obtain rfl : m = 1 := by omega
        obtain ⟨b, o, rfl, hbw, hg⟩ := HL.out.get (by omega)
        have X : Hid (wr.rangeAt b o (R.map bV)) := by
          have h := hg 0 (by omega)
          rw [Nat.zero_mul, Nat.add_zero, getD_any (by have := HM.out; omega), ← rootL_one prH zM (by have := HM.out; omega), HR.out] at h
          exact h
        clear hg
        go_wp2_with ((with_reducible show wpList _ _ _ _ _ _); first | (refine wpList_load_mid rfl 23 (.tmp 13) rfl b o rfl (R.map bV) _ X.out Tryd.underlying23 rfl (by rw [HLR.out]; kernel_rfl) ?_; go_frame) | (refine wpList_store_row rfl 23 (.tmp 2) (.tmp 14) rfl w.heap.size (R.map bV).toArray rfl rfl 23 _ F.out (by rw [HS.out]; kernel_rfl) (by rw [HS.out]; rfl) (bV_one _) ?_; go_frame))
        refine bodyPost_ret (results_cell_row rfl _ _ w.heap.size 23 (R.map bV).toArray (0, 0) (.array 32 5) rfl (setRow_heap _ _ _ _ _ _ F.out) Tryd.underlying23 rfl (by rw [HS.out]; kernel_rfl)) rfl ⟨rfl, below_setRow B.out (Nat.le_refl _) _⟩
end Go.Proofs.YtcghbogkplcohaaDoor.Sha

/-
  What a loop that makes a way keeps. No conditions.
-/
namespace Go.Proofs.YtcghbogkplcohaaDoor.Sha
open Go Go.RowKit
def pathInv (P : List (List UInt8)) (w : World) (va vl vp : Value) (wr : World) : Prop :=
  ∃ (k : Nat) (l' done : List (List UInt8)) (vb : Value), vb = vp ∧ va = .int .i64 k ∧ HsAt wr vl l' ∧ k < l'.length ∧ l'.length ≤ 1048576 ∧ done ++ pathL prH zM k l' = P ∧ HsOwn w.heap.size wr vb done ∧ Off vl vb.ownBlock ∧ Below w.heap.size w wr
theorem off_new {base : Nat} {w : World} {v u : Value} {l : List (List UInt8)} (h : HsOwn base w v l) (hu : ∀ g, u.ownBlock = some g → g < base) : Off v u.ownBlock := by
  cases hg : u.ownBlock with
  | none => exact Off.none v
  | some g => exact own_off h.1 (hu g hg)
theorem HsOwn.lt {base : Nat} {w : World} {v : Value} {l : List (List UInt8)} (h : HsOwn base w v l) : ∀ g, v.ownBlock = some g → g < w.heap.size := fun g hg => (h.1.lt g hg).2
end Go.Proofs.YtcghbogkplcohaaDoor.Sha

/-
  The statements' own copy of a row of digests: new memory; nothing that was there turns. Conditions: the digests lie where the slice says; at most 2^20 of them.
-/
namespace Go.Proofs.YtcghbogkplcohaaDoor.Sha
open Go Go.RowKit
def hsInv (l : List (List UInt8)) (w : World) (vs vi : Value) (wr : World) : Prop :=
  ∃ (k : Nat) (vb : Value), vb = vs ∧ vi = .int .i64 k ∧ k ≤ l.length ∧ HsOwn w.heap.size wr vb (l.take k) ∧ Below w.heap.size w wr
end Go.Proofs.YtcghbogkplcohaaDoor.Sha

/-
  The calls on rows of digests, for any value that reads so. Nothing that was there turns. Conditions: as told; for package merkle's the table is there.
-/
namespace Go.Proofs.YtcghbogkplcohaaDoor.Sha
open Go Go.RowKit
theorem root_v (l : List (List UInt8)) (R : List UInt8) (v : Value) (w : World) (hk : KTab w) (h : HsAt w v l) (hn : l.length ≤ 1048576) (hR : rootL prH zM l = R) :
    Calls Tryd.prog 17 #[v] w fun e w' => e = .returned (.agg (R.map bV).toArray) ∧ Below w.heap.size w w' := by
  obtain ⟨sp, cap, rfl⟩ := h.shape
  subst hR
  exact root_any l sp _ cap w hk h hn
theorem same_v (x y : List UInt8) (r : Bool) (hx : x.length = 32) (hy : y.length = 32) (hr : r = decide (x = y)) (w : World) :
    Calls Tryd.prog 10 #[.agg (x.map bV).toArray, .agg (y.map bV).toArray] w fun e w' => e = .returned (.bool r) ∧ Below w.heap.size w w' := by
  rw [hr]
  exact same_any x y hx hy w
theorem HsOwn.base {b b' : Nat} {w : World} {v : Value} {l : List (List UInt8)} (h : HsOwn b w v l) (hb : b' ≤ b) : HsOwn b' w v l := ⟨own_base h.1 hb, h.2⟩
/-- A whole box of digests. -/
theorem hs_box {w : World} {g : Nat} {l : List (List UInt8)} (h : w.heap[g]? = some (.cells (hsL l).toArray 23 (0, 0))) (ho : HsOk l) (hn : l.length ≤ 1048576) : HsAt w (.slice (some ⟨g, 0, none⟩) l.length l.length) l :=
  HsOwn.at (base := 0) ⟨own_of_row h (Nat.zero_le _) (hsL_length l ho) (by unfold maxLen; omega), ho⟩
theorem hs_box1 {w : World} {g : Nat} {x : List UInt8} (h : w.heap[g]? = some (.cells (x.map bV).toArray 23 (0, 0))) (hx : x.length = 32) : HsAt w (.slice (some ⟨g, 0, none⟩) 1 1) [x] :=
  hs_box (l := [x]) (by rw [show hsL [x] = x.map bV by simp [hsL]]; exact h) (fun y hy => by rw [List.mem_singleton.1 hy]; exact hx) (by simp)
theorem hs_box2 {w : World} {g : Nat} {x y : List UInt8} (h : w.heap[g]? = some (.cells (x.map bV ++ y.map bV).toArray 23 (0, 0))) (hx : x.length = 32) (hy : y.length = 32) : HsAt w (.slice (some ⟨g, 0, none⟩) 2 2) [x, y] :=
  hs_box (l := [x, y]) (by rw [show hsL [x, y] = x.map bV ++ y.map bV by simp [hsL]]; exact h) (fun z hz => by
    simp only [List.mem_cons, List.not_mem_nil, or_false] at hz
    rcases hz with rfl | rfl
    · exact hx
    · exact hy) (by simp)
def h1M : List UInt8 := 1 :: List.replicate 31 0
theorem h1M_length : h1M.length = 32 := by simp [h1M]
end Go.Proofs.YtcghbogkplcohaaDoor.Sha

/-
  Package block answers the digests that a block's transactions go by, their root, its own. New memory; nothing that was there turns. Conditions: a block of a few transactions that lies in memory; the table is there.
-/
namespace Go.Proofs.YtcghbogkplcohaaDoor.Sha
open Go Go.RowKit
/-- The digests that transactions go by. -/
def idsL (l : List TTx) : List (List UInt8) := l.map fun t => sha (sha (txB t))
theorem idsL_ok (l : List TTx) : HsOk (idsL l) := fun y hy => by
  obtain ⟨t, _, rfl⟩ := List.mem_map.1 hy
  exact sha_length _
theorem idsL_snoc {l : List TTx} {k : Nat} {t : TTx} (h : l[k]? = some t) : idsL (l.take (k + 1)) = idsL (l.take k) ++ [sha (sha (txB t))] := by
  unfold idsL
  rw [List.take_add_one, h, List.map_append]
  rfl
theorem idsL_length (l : List TTx) : (idsL l).length = l.length := by simp [idsL]
def IdInv (n : Nat) (l : List TTx) (w1 : World) (vb vi : Value) (wr : World) : Prop :=
  ∃ (k : Nat) (vq : Value), vq = vb ∧ k ≤ n ∧ vi = .int .i64 k ∧ HsOwn w1.heap.size wr vq (idsL (l.take k)) ∧ Below w1.heap.size w1 wr
set_option maxHeartbeats 2000000 in
set_option maxRecDepth 100000 in
theorem ids_any (x : TBlk) (v : Value) (w : World) (h1 : BlkAt w v x) (hs : BlkSmall x) (hk : KTab w) :
    Calls Tryd.prog 13 #[v] w fun e w' => ∃ v', e = .returned v' ∧ HsOwn w.heap.size w' v' (idsL x.txs) ∧ Below w.heap.size w w' := by
  obtain ⟨i0, hi, hz0, hz1, hz2⟩ := info_parts info_hash
  have HK := Lib.hid hk
  clear hk
  obtain ⟨hh, tv, rfl, ht⟩ := h1
  obtain ⟨sp, cap, rfl⟩ := ht.shape
  obtain ⟨n, hn⟩ : ∃ n, n = x.txs.length := ⟨_, rfl⟩
  rw [← hn] at ht ⊢
  have hcap : n ≤ cap := ht.len.2
  obtain ⟨cs, hcs⟩ : ∃ cs, cs = blL x.head (.slice sp n cap) := ⟨_, rfl⟩
  rw [← hcs]
  have CS := Lib.hid hcs
  have LCS : Hid (cs.length = 69) := by show _ = _; rw [hcs]; exact blL_length hh _
  have LCS' : Hid (cs.toArray.size = 69) := by show _ = _; rw [hcs]; exact blL_size hh _
  have BV : Hid (∀ W, Below w.heap.size w W → BlkAt W (.agg cs.toArray) x) := fun W hW => by rw [hcs]; exact ⟨hh, _, rfl, ht.below hW⟩
  have HH := Lib.hid hh
  have HT := Lib.hid ht
  have NN := Lib.hid hn
  have TS := Lib.hid hs
  have bn : n ≤ 1000 := by rw [hn]; exact hs.2
  clear hs
  clear hcs hh ht hn
  go_enter Tryd.func13, Tryd.ntmps13
  go_upto_region 1 with fail
  have f0 := heap_alloc_new w (.cells cs.toArray 37 (0, 0))
  have b0 := (Below.refl w.heap.size w).alloc (Nat.le_refl _) (.cells cs.toArray 37 (0, 0))
  generalize hw1 : World.alloc _ _ = w1
  have e1 : w.alloc (.cells cs.toArray 37 (0, 0)) = w1 := hw1
  rw [e1] at f0 b0
  have k0 := f0
  rw [CS.out] at k0
  have K : Hid (BlBox w1 w.heap.size x.head (.slice sp n cap)) := ⟨k0⟩
  have F0 := Lib.hid f0
  have B0 := Lib.hid b0
  clear hw1 e1 f0 b0 k0
  have c68 : w1.cell? ⟨w.heap.size, 68, none⟩ = some (.slice sp n cap) := K.out.txs HH.out
  go_upto_region 2 with (at_make; refine wpList_make_own _ rfl _ _ 54 rfl w1.heap.size 23 i0 (.agg (List.replicate 32 (bV 0)).toArray) 32 Tryd.underlying54 hi hz0 hz1 _ _ _ n rfl rfl (by omega) (by rw [hz2]; omega) (by unfold maxLen; omega) (Nat.le_refl _) ?_; intro w2 hown hgrow; have HO0 := Lib.hid hown; have HG0 := Lib.hid hgrow; clear hown hgrow; go_frame)
  have HB0 := Lib.hid ((Below.refl _ _).grown HG0.out (Nat.le_refl _) (fun k hk => by cases hk))
  have HST : Hid (HsOwn w1.heap.size w2 (.slice (some ⟨w1.heap.size, 0, none⟩) 0 n) (idsL (x.txs.take 0))) := ⟨HO0.out, fun x hx => by simp [idsL] at hx⟩
  clear HO0 HG0 c68
  have c68 : w2.cell? ⟨w.heap.size, 68, none⟩ = some (.slice sp n cap) := (K.out.below HB0.out).txs HH.out
  go_wp2_with fail
  clear c68
  go_loopw [3, 13] (fun vb vi wr => IdInv n x.txs w1 vb vi wr) (fun _ i _ => n - (intOf i).toNat)
  case atStart => exact ⟨0, _, rfl, by omega, rfl, HST.out, HB0.out⟩
  case round =>
    clear HST HB0
    obtain ⟨k, vb, rfl, hk, rfl, HO, B⟩ := hrel
    have HO := Lib.hid HO
    have B := Lib.hid B
    by_cases hlt : k < n
    · skip
      obtain ⟨b, o, hs1, _, hg⟩ := HT.out.get (by omega)
      obtain ⟨t, hgt⟩ : ∃ t, x.txs[k]? = some t := ⟨_, List.getElem?_eq_getElem (by have := NN.out; omega)⟩
      obtain ⟨iv, ov, hr, hta⟩ := hg k t hgt
      have LC : Hid ((txL t iv ov).length = 4) := rfl
      have LC' : Hid ((txL t iv ov).toArray.size = 4) := rfl
      have ONE : Hid ((txL t iv ov).toArray.all (·.oneCell') = true) := by
        obtain ⟨_, iv', ov', e, h1, h2⟩ := hta
        have e : txL t iv ov = txL t iv' ov' := by simpa using e
        rw [e]
        exact tx_one h1 h2
      obtain ⟨ct, hct⟩ : ∃ ct, ct = txL t iv ov := ⟨_, rfl⟩
      rw [← hct] at hr hta LC LC' ONE
      have R := Lib.hid (range_below (range_below hr B0.out) B.out)
      have TA : Hid (∀ W, Below wr.heap.size wr W → TxAt W (.agg ct.toArray) t) := fun W hW => ((hta.below B0.out).below B.out).below hW
      have GT := Lib.hid hgt
      have p0 : 0 ≤ (k : Int) := by omega
      have q0 : (k : Int) < (n : Int) := by omega
      subst hs1
      clear hg hgt hr hta hct
      obtain ⟨g5, hg5⟩ : ∃ g5, g5 = wr.heap.size := ⟨_, rfl⟩
      obtain ⟨_, f2, f3, f4⟩ := fill_setup (Below.refl wr.heap.size wr) [nV 0, .slice none 0 0, .slice none 0 0, nV 0].toArray ct.toArray 32
      go_upto_region 5 with ((with_reducible show wpList _ _ _ _ _ _); first | (refine wpList_load_mid rfl 32 (.tmp 15) rfl b (o + k * 4) rfl ct _ R.out Tryd.underlying32 rfl (by rw [LC.out]; kernel_rfl) ?_; go_frame) | (refine wpList_store_row rfl 32 (.tmp 5) (.tmp 16) rfl wr.heap.size ct.toArray rfl rfl 32 _ (heap_alloc_new _ _) (by rw [LC'.out]; kernel_rfl) (by rw [LC'.out]; rfl) ONE.out ?_; go_frame))
      rw [← hg5] at f2 f3 f4 ⊢
      generalize hw5 : World.setRow _ _ _ = w5
      have e5 : World.setRow (wr.alloc (.cells [nV 0, .slice none 0 0, .slice none 0 0, nV 0].toArray 32)) g5 ct.toArray = w5 := hw5
      rw [e5] at f2 f4
      rw [hg5] at f4
      have F5 := Lib.hid f2
      have N5 := Lib.hid f4
      have B5 := Lib.hid (B.out.trans (f4.mono B.out.size))
      have G5 := Lib.hid hg5
      clear f2 f3 f4 hg5 hw5 e5
      have HO5 := Lib.hid (HO.out.keep N5.out)
      obtain ⟨d, hd⟩ : ∃ d, d = sha (sha (txB t)) := ⟨_, rfl⟩
      have LD : Hid (d.length = 32) := by show _ = _; rw [hd]; exact sha_length _
      have LX : Hid ((d.map bV).length = 32) := by show _ = _; rw [List.length_map, LD.out]
      have IDC : Hid (Calls Tryd.prog 27 #[.agg ct.toArray] w5 fun e w' => e = .returned (.agg (d.map bV).toArray) ∧ Below w5.heap.size w5 w') := by
        rw [hd]
        exact id_of bytes_all t _ w5 ((HK.out.below B0.out).below B5.out) (TA.out _ N5.out) (TS.out.1 t (List.mem_of_getElem? GT.out))
      have HTL : Hid ((idsL (x.txs.take k)).length ≤ 1048576) := by show _ ≤ _; rw [idsL_length, List.length_take]; omega
      have HD := Lib.hid hd
      clear hd HO
      go_wp2_with ((with_reducible show wpList _ _ _ _ _ _); (refine wpList_load_row rfl 32 (.tmp 5) rfl g5 rfl 32 ct.toArray (0, 0) _ F5.out Tryd.underlying32 rfl (by rw [LC'.out]; kernel_rfl) ?_; go_frame))
      refine IDC.out.mono ?_
      rintro e w6 ⟨rfl, hb6⟩
      have HO6 := Lib.hid (HO5.out.keep hb6)
      have B6 := Lib.hid (B5.out.trans (hb6.mono B5.out.size))
      clear hb6 HO5 IDC
      go_wp2_with (first | ((with_reducible show wpList _ _ _ _ _ _); (refine wpList_slice_one rfl 54 23 (.tmp 19) rfl (d.map bV) rfl Tryd.underlying54 i0 _ hi hz0 (by rw [hz1, LX.out]) (by rw [LX.out]; omega) (by rw [LX.out]; omega) ?_; have nf := heap_alloc_new w6 (.cells (d.map bV).toArray 23 (0, 0)); have bb := (Below.refl w6.heap.size w6).alloc (Nat.le_refl _) (.cells (d.map bV).toArray 23 (0, 0)); obtain ⟨gn, hgn⟩ : ∃ gn, gn = w6.heap.size := ⟨_, rfl⟩; generalize hw7 : World.alloc _ _ = w7; have e2 : w6.alloc (.cells (d.map bV).toArray 23 (0, 0)) = w7 := hw7; rw [e2] at nf bb; rw [← hgn] at nf ⊢; have NF := Lib.hid nf; have HO7 := Lib.hid (HO6.out.keep bb); have B7 := Lib.hid (B6.out.trans (bb.mono B6.out.size)); clear nf bb hw7 e2 hgn; go_frame)) | (at_builtin; refine wpList_append_own_at _ rfl _ _ 54 rfl w1.heap.size 23 i0 (.agg (List.replicate 32 (bV 0)).toArray) 32 32 Tryd.underlying54 hi hz0 hz1 hz2 (by kernel_rfl) (by decide) vb _ (hsL (idsL (x.txs.take k))) rfl HO7.out.1 ⟨gn, 0, none⟩ 1 1 (d.map bV) rfl (by rw [LX.out]) (hs_one NF.out) (bV_one' _) (by have := HTL.out; unfold maxLen; omega) (by have := HTL.out; omega) B7.out.size ?_; intro v8 w8 q1 q2 _ q4; have HO8 := Lib.hid (HsOwn.push (base := w1.heap.size) HO7.out.2 LD.out q1); have B8 := Lib.hid (own_grown B7.out (Nat.le_refl _) B7.out.size HO7.out.1 q2); clear q1 q2 q4; go_frame))
      go_roundw
      case rel => exact ⟨k + 1, _, rfl, by omega, by go_num, by rw [idsL_snoc GT.out, ← HD.out]; exact HO8.out, B8.out⟩
      case measure => simp [intOf]; omega
    · have hkn : k = n := by omega
      have hge : ¬ (k : Int) < (n : Int) := by omega
      have HF : Hid (HsOwn w1.heap.size wr vb (idsL x.txs)) := by
        have h := HO.out
        rw [hkn, NN.out, List.take_length] at h
        exact h
      clear HO hkn
      go_wp2_with fail
      go_ret
      exact ⟨_, rfl, HF.out.base B0.out.size, B0.out.trans (B.out.mono B0.out.size)⟩
/-- The root of a block's transactions. -/
def blRoot (x : TBlk) : List UInt8 := rootL prH zM (idsL x.txs)
theorem blRoot_length (x : TBlk) : (blRoot x).length = 32 := rootL_len _ _ rfl (idsL_ok _)
set_option maxHeartbeats 1000000 in
set_option maxRecDepth 100000 in
theorem blroot_any (x : TBlk) (v : Value) (w : World) (h1 : BlkAt w v x) (hs : BlkSmall x) (hk : KTab w) :
    Calls Tryd.prog 7 #[v] w fun e w' => e = .returned (.agg ((blRoot x).map bV).toArray) ∧ Below w.heap.size w w' := by
  have HK := Lib.hid hk
  clear hk
  obtain ⟨R, hR⟩ : ∃ R, R = blRoot x := ⟨_, rfl⟩
  have LR : Hid (R.length = 32) := by show _ = _; rw [hR]; exact blRoot_length x
  have HR : Hid (rootL prH zM (idsL x.txs) = R) := hR.symm
  rw [← hR]
  obtain ⟨dg, hdg⟩ : ∃ dg, dg = (R.map bV).toArray := ⟨_, rfl⟩
  have HOne : Hid (dg.all (·.oneCell') = true) := by show _ = _; rw [hdg]; exact bV_one R
  have HLen : Hid (dg.size = 32) := by show _ = _; rw [hdg]; simp [LR.out]
  have HD := Lib.hid hdg
  rw [← hdg]
  clear hR hdg
  obtain ⟨hh, tv, rfl, ht⟩ := h1
  obtain ⟨sp, cap, rfl⟩ := ht.shape
  obtain ⟨n, hn⟩ : ∃ n, n = x.txs.length := ⟨_, rfl⟩
  rw [← hn] at ht ⊢
  have hcap : n ≤ cap := ht.len.2
  obtain ⟨cs, hcs⟩ : ∃ cs, cs = blL x.head (.slice sp n cap) := ⟨_, rfl⟩
  rw [← hcs]
  have CS := Lib.hid hcs
  have LCS : Hid (cs.length = 69) := by show _ = _; rw [hcs]; exact blL_length hh _
  have LCS' : Hid (cs.toArray.size = 69) := by show _ = _; rw [hcs]; exact blL_size hh _
  have BV : Hid (∀ W, Below w.heap.size w W → BlkAt W (.agg cs.toArray) x) := fun W hW => by rw [hcs]; exact ⟨hh, _, rfl, ht.below hW⟩
  have HH := Lib.hid hh
  have HT := Lib.hid ht
  have NN := Lib.hid hn
  have TS := Lib.hid hs
  have bn : n ≤ 1000 := by rw [hn]; exact hs.2
  clear hs
  clear hcs hh ht hn
  go_enter Tryd.func7, Tryd.ntmps7
  go_upto_region 1 with fail
  have f0 := row_below (heap_alloc_new w (.cells cs.toArray 37 (0, 0))) ((Below.refl _ _).alloc (Nat.le_refl _) (.cells (List.replicate 32 (bV 0)).toArray 23))
  have f2 := heap_alloc_new (w.alloc (.cells cs.toArray 37 (0, 0))) (.cells (List.replicate 32 (bV 0)).toArray 23)
  have b0 := ((Below.refl w.heap.size w).alloc (Nat.le_refl _) (.cells cs.toArray 37 (0, 0))).alloc (by simp) (.cells (List.replicate 32 (bV 0)).toArray 23)
  rw [World.size_alloc] at f2
  generalize hw1 : World.alloc _ _ = w1
  have e1 : (w.alloc (.cells cs.toArray 37 (0, 0))).alloc (.cells (List.replicate 32 (bV 0)).toArray 23) = w1 := hw1
  rw [e1] at f0 f2 b0
  have F2 := Lib.hid f2
  clear f2
  have k0 := f0
  rw [CS.out] at k0
  have K : Hid (BlBox w1 w.heap.size x.head (.slice sp n cap)) := ⟨k0⟩
  have F0 := Lib.hid f0
  have B0 := Lib.hid b0
  clear hw1 e1 f0 b0 k0
  have HN : Hid ((idsL x.txs).length ≤ 1048576) := by show _ ≤ _; rw [idsL_length, ← NN.out]; omega
  go_wp2_with ((with_reducible show wpList _ _ _ _ _ _); (refine wpList_load_row rfl 37 (.tmp 1) rfl w.heap.size rfl 37 cs.toArray (0, 0) _ F0.out Tryd.underlying37 rfl (by rw [LCS'.out]; kernel_rfl) ?_; go_frame))
  refine (ids_any x _ w1 (BV.out w1 B0.out) TS.out (HK.out.below B0.out)).mono ?_
  rintro e w2 ⟨v2, rfl, ho, hb2⟩
  have HA := Lib.hid ho.at
  have B2 := Lib.hid (B0.out.trans (hb2.mono B0.out.size))
  have F3 := Lib.hid (row_below F2.out hb2)
  clear ho hb2
  have RT := root_v (idsL x.txs) R v2 w2 (HK.out.below B2.out) HA.out HN.out HR.out
  rw [← HD.out] at RT
  go_wp2_with fail
  refine RT.mono ?_
  rintro e w3 ⟨rfl, hb3⟩
  clear RT
  have B3 := Lib.hid (B2.out.trans (hb3.mono B2.out.size))
  have F4 := Lib.hid (row_below F3.out hb3)
  clear hb3
  go_wp2_with ((with_reducible show wpList _ _ _ _ _ _); refine wpList_store_row rfl 23 (.tmp 2) (.tmp 5) rfl (w.heap.size + 1) dg rfl rfl 23 _ F4.out (by rw [HLen.out]; kernel_rfl) (by rw [HLen.out]; rfl) HOne.out ?_; go_frame)
  refine bodyPost_ret (results_cell_row rfl _ _ (w.heap.size + 1) 23 dg (0, 0) (.array 32 5) rfl (setRow_heap _ _ _ _ _ _ F4.out) Tryd.underlying23 rfl (by rw [HLen.out]; kernel_rfl)) rfl ⟨rfl, below_setRow B3.out (Nat.le_succ _) _⟩
end Go.Proofs.YtcghbogkplcohaaDoor.Sha

/-
  spend.Lock answers a key's digest; spend.Opens tells whether a key of at most 80 bytes has that lock. Nothing that was there turns. Conditions: the bytes lie where the slice says, the table is there, fewer than 2^59 bytes.
-/
namespace Go.Proofs.YtcghbogkplcohaaDoor.Sha
open Go Go.RowKit
set_option maxRecDepth 100000 in
theorem lock_any (bs : List UInt8) (v : Value) (w : World) (hk : KTab w) (hsrc : SrcB w v bs) (hlen : bs.length ≤ 576460752303423487) :
    Calls Tryd.prog 26 #[v] w fun e w' => e = .returned (.agg ((sha bs).map bV).toArray) ∧ Below w.heap.size w w' := by
  have hl : ((sha bs).map bV).toArray.size = 32 := by simp [sha_length]
  have HL := Lib.hid hl
  have HK := Lib.hid hk
  have HS := Lib.hid hsrc
  clear hk hsrc hl
  go_enter Tryd.func26, Tryd.ntmps26
  go_wp2_with fail
  have b1 : Below w.heap.size w (w.alloc (.cells (List.replicate 32 (bV 0)).toArray 23)) := (Below.refl _ _).alloc (Nat.le_refl _) _
  have f1 : (w.alloc (.cells (List.replicate 32 (bV 0)).toArray 23)).heap[w.heap.size]? = some (.cells (List.replicate 32 (bV 0)).toArray 23 (0, 0)) := heap_alloc_new _ _
  have z1 : w.heap.size < (w.alloc (.cells (List.replicate 32 (bV 0)).toArray 23)).heap.size := by simp
  generalize hw1 : World.alloc _ _ = w1
  have e1 : w.alloc (.cells (List.replicate 32 (bV 0)).toArray 23) = w1 := hw1
  rw [e1] at b1 f1 z1
  clear hw1 e1
  refine (sha_any bs v w1 (HK.out.below b1) (HS.out.below b1) hlen).mono ?_
  rintro e w2 ⟨rfl, hb2⟩
  have f2 : w2.heap[w.heap.size]? = some (.cells (List.replicate 32 (bV 0)).toArray 23 (0, 0)) := row_below f1 hb2
  have F2 := Lib.hid f2
  have B2 := Lib.hid (b1.trans (hb2.mono b1.size))
  clear f2 hb2 f1 b1 z1
  go_wp2_with ((with_reducible show wpList _ _ _ _ _ _); refine wpList_store_row rfl 23 (.tmp 2) (.tmp 4) rfl w.heap.size ((sha bs).map bV).toArray rfl rfl 23 _ F2.out (by rw [HL.out]; kernel_rfl) (by rw [HL.out]; rfl) (bV_one _) ?_; go_frame)
  refine bodyPost_ret (results_cell_row rfl _ _ w.heap.size 23 ((sha bs).map bV).toArray (0, 0) (.array 32 5) rfl (setRow_heap _ _ _ _ _ _ F2.out) Tryd.underlying23 rfl (by rw [HL.out]; kernel_rfl)) rfl ⟨rfl, below_setRow B2.out (Nat.le_refl _) _⟩
/-- Opens. -/
def opensL (bs l : List UInt8) : Bool := decide (bs.length ≤ 80) && decide (sha bs = l)
end Go.Proofs.YtcghbogkplcohaaDoor.Sha

/-
  Package block makes the block that each chain begins with. New memory; nothing that was there turns. Condition: the table is there.
-/
namespace Go.Proofs.YtcghbogkplcohaaDoor.Sha
open Go Go.RowKit
def startH : THd := ⟨1, zH, zH, 1000, 1, 0⟩
def startT : TTx := firstT 0 0 (sha []) []
/-- The block that each chain begins with, its root not yet set. -/
def startX0 : TBlk := ⟨startH, [startT]⟩
def startX : TBlk := ⟨{ startH with root := blRoot startX0 }, [startT]⟩
theorem startH_ok : HdOk startH := ⟨by decide, rfl, rfl, by decide, by decide, by decide⟩
theorem startX_ok : HdOk startX.head := ⟨by decide, rfl, blRoot_length startX0, by decide, by decide, by decide⟩
theorem firstT_came {h32 val : Nat} {lock ex : List UInt8} (h1 : h32 ≤ 4294967295) (hv : val ≤ 18446744073709551615) (hl : lock.length = 32) (he : ex.length ≤ 99000) : TxSmall (firstT h32 val lock ex) := by
  refine ⟨⟨⟨by show 1 ≤ _; omega, by show 0 ≤ _; omega⟩, ?_, ?_, ?_, by simp [firstT], by simp [firstT]⟩, by simp [firstT], by simp [firstT], ?_⟩
  · intro y hy
    simp only [firstT, List.mem_singleton] at hy
    rw [hy]
    exact firstX_ok ex h1
  · intro y hy
    simp only [firstT, List.mem_singleton] at hy
    rw [hy]
    exact ⟨hl, hv⟩
  · intro y hy
    simp only [firstT, List.mem_singleton] at hy
    rw [hy]
    simp only [firstX, List.length_append, leB_length]
    omega
  · intro y hy
    simp only [firstT, List.mem_singleton] at hy
    rw [hy]
    simp only [firstX, List.length_append, leB_length]
    omega
theorem startT_small : TxSmall startT := firstT_came (by omega) (by omega) (sha_length _) (by simp)
theorem startX0_small : BlkSmall startX0 := ⟨fun t ht => by simp only [startX0, List.mem_singleton] at ht; rw [ht]; exact startT_small, by simp [startX0]⟩
theorem startX_small : BlkSmall startX := ⟨fun t ht => by simp only [startX, List.mem_singleton] at ht; rw [ht]; exact startT_small, by simp [startX]⟩
set_option maxHeartbeats 4000000 in
set_option maxRecDepth 100000 in
theorem blstart_any (w : World) (hk : KTab w) :
    Calls Tryd.prog 12 #[] w fun e w' => ∃ v, e = .returned v ∧ BlkAt w' v startX ∧ Below w.heap.size w w' := by
  obtain ⟨i0, hi, hz0, hz1, hz2⟩ := info_parts info_txc
  have HK := Lib.hid hk
  have LC : Hid (∀ W, KTab W → Calls Tryd.prog 26 #[.slice none 0 0] W fun e w' => e = .returned (.agg ((sha []).map bV).toArray) ∧ Below W.heap.size W w') := fun W hW => lock_any [] _ W hW (nil_src _) (by simp)
  have FC : Hid (∀ W, Calls Tryd.prog 6 #[.int .i64 0, .int .u64 0, .agg ((sha []).map bV).toArray, .slice none 0 0] W fun e w' => ∃ v', e = .returned v' ∧ TxNew W w' v' startT ∧ Below W.heap.size W w') := fun W =>
    blfirst_any 0 0 0 (sha []) [] (.slice none 0 0) W (by decide) (by omega) (by omega) (sha_length _) (nil_src _) (by simp)
  obtain ⟨lk, hlk⟩ : ∃ lk, lk = ((sha []).map bV).toArray := ⟨_, rfl⟩
  rw [← hlk] at LC FC
  clear hk hlk
  go_enter Tryd.func12, Tryd.ntmps12
  go_upto_region 1 with fail
  have f0 := heap_alloc_new w (.cells Tryd.zeroCells37 37 (0, 0))
  have b0 := (Below.refl w.heap.size w).alloc (Nat.le_refl _) (.cells Tryd.zeroCells37 37 (0, 0))
  generalize hw1 : World.alloc _ _ = w1
  have e1 : w.alloc (.cells Tryd.zeroCells37 37 (0, 0)) = w1 := hw1
  rw [e1] at f0 b0
  have F0 := Lib.hid f0
  have B0 := Lib.hid b0
  clear f0 b0 hw1 e1
  go_wp2_with ((with_reducible show wpList _ _ _ _ _ _); refine wpList_buildTo rfl 28 _ rfl _ rfl (hdL startH).toArray (by kernel_rfl) ?_; go_frame)
  refine (LC.out w1 (HK.out.below B0.out)).mono ?_
  rintro e w2 ⟨rfl, hb2⟩
  have B2 := Lib.hid (B0.out.trans (hb2.mono B0.out.size))
  have F2 := Lib.hid (row_below F0.out hb2)
  clear hb2
  go_wp2_with fail
  refine (FC.out w2).mono ?_
  rintro e w3 ⟨v3, rfl, ht3, hb3⟩
  have B3 := Lib.hid (B2.out.trans (hb3.mono B2.out.size))
  have F3 := Lib.hid (row_below F2.out hb3)
  have N3 := Lib.hid hb3
  have TA := Lib.hid ht3
  obtain ⟨_, iv, ov, rfl, _, _⟩ := ht3.at
  have LW2 : Hid (w.heap.size < w2.heap.size) := (Array.getElem?_eq_some_iff.1 F2.out).1
  clear hb3
  have CT : Hid ((txL startT iv ov).length = 4) := rfl
  obtain ⟨ct, hct⟩ : ∃ ct, ct = txL startT iv ov := ⟨_, rfl⟩
  rw [← hct] at CT TA ⊢
  have HCT := Lib.hid hct
  clear hct
  have ONE : Hid ((blL startH (.slice (some ⟨w3.heap.size, 0, none⟩) 1 1)).toArray.all (·.oneCell') = true) := blL_one rfl
  have HGT : Hid (∀ g, (blL startH (.slice (some ⟨g, 0, none⟩) 1 1)).toArray.all (·.oneCell') = true) := fun g => blL_one rfl
  have HGS : Hid (∀ g, (blL startH (.slice (some ⟨g, 0, none⟩) 1 1)).toArray.size = 69) := fun g => blL_size startH_ok _
  go_upto_region 2 with ((with_reducible show wpList _ _ _ _ _ _); first | (refine wpList_slice_one rfl 35 32 (.tmp 4) rfl ct rfl Tryd.underlying35 i0 _ hi hz0 (by rw [hz1, CT.out]) (by rw [CT.out]; omega) (by rw [CT.out]; omega) ?_; have nf := heap_alloc_new w3 (.cells (ct).toArray 32 (0, 0)); have bb := (Below.refl w3.heap.size w3).alloc (Nat.le_refl _) (.cells (ct).toArray 32 (0, 0)); obtain ⟨gt, hgt⟩ : ∃ g, g = w3.heap.size := ⟨_, rfl⟩; generalize hq : World.alloc _ _ = w4; have e2 : w3.alloc (.cells (ct).toArray 32 (0, 0)) = w4 := hq; rw [e2] at nf bb; rw [← hgt] at nf ⊢; have NT := Lib.hid nf; have B4 := Lib.hid (B3.out.trans (bb.mono B3.out.size)); have F4 := Lib.hid (row_below F3.out bb); have GTL := Lib.hid ((show w2.heap.size ≤ gt by rw [hgt]; exact N3.out.size)); have TA4 := Lib.hid (TA.out.on (Kps.new bb)); clear nf bb hq e2 hgt; go_frame) | (refine wpList_buildTo rfl 37 _ rfl _ rfl (blL startH (.slice (some ⟨gt, 0, none⟩) 1 1)).toArray (by kernel_rfl) ?_; obtain ⟨cs, hcs⟩ : ∃ cs, cs = blL startH (.slice (some ⟨gt, 0, none⟩) 1 1) := ⟨_, rfl⟩; have ON := Lib.hid (HGT.out gt); have LS := Lib.hid (HGS.out gt); rw [← hcs] at ON LS ⊢; have HCS := Lib.hid hcs; clear hcs HGT HGS; go_frame) | (refine wpList_store_row rfl 37 (.tmp 1) (.tmp 6) rfl w4.heap.size cs.toArray rfl rfl 37 _ (heap_alloc_new _ _) (by rw [LS.out]; kernel_rfl) (by rw [LS.out]; kernel_rfl) ON.out ?_; go_frame))
  obtain ⟨g5, hg5⟩ : ∃ g5, g5 = w4.heap.size := ⟨_, rfl⟩
  obtain ⟨_, f2, f3, f4⟩ := fill_setup (Below.refl w4.heap.size w4) Tryd.zeroCells37 cs.toArray 37
  rw [← hg5] at f2 f3 f4 ⊢
  generalize hw5 : World.setRow _ _ _ = w5
  have e5 : World.setRow (w4.alloc (.cells Tryd.zeroCells37 37)) g5 cs.toArray = w5 := hw5
  rw [e5] at f2 f4
  rw [hg5] at f4
  have k5 := f2
  rw [HCS.out] at k5
  have K5 : Hid (BlBox w5 g5 startH (.slice (some ⟨gt, 0, none⟩) 1 1)) := ⟨k5⟩
  have F5 := Lib.hid f2
  have TX4 : Hid (Sty (fun k => w2.heap.size ≤ k ∧ k ≠ g5) w4 (fun W => TxsAt W (.slice (some ⟨gt, 0, none⟩) 1 1) [startT])) := fun W hW => by
    have hgt5 : gt < w4.heap.size := (Array.getElem?_eq_some_iff.1 NT.out).1
    have h1 := row_kps NT.out hW ⟨GTL.out, by rw [hg5]; omega⟩
    have h2 := TA4.out W (hW.mono (fun k hk h => ⟨h, by rw [hg5]; omega⟩))
    rw [HCT.out] at h1 h2
    exact txsAt_one h1 h2
  have N5 := Lib.hid f4
  have B5 := Lib.hid (B4.out.trans (f4.mono B4.out.size))
  have FR5 := Lib.hid (row_below F4.out f4)
  have GB : Hid (w.heap.size < g5) := by show _ < _; rw [hg5]; exact (Array.getElem?_eq_some_iff.1 F4.out).1
  clear f2 f3 f4 hw5 e5 k5 hg5
  have BA : Hid (BlkAt w5 (.agg cs.toArray) startX0) := by rw [HCS.out]; exact ⟨startH_ok, _, rfl, TX4.out w5 (Kps.new N5.out)⟩
  obtain ⟨R, hR⟩ : ∃ R, R = blRoot startX0 := ⟨_, rfl⟩
  have LR : Hid (R.length = 32) := by show _ = _; rw [hR]; exact blRoot_length startX0
  have RC : Hid (Calls Tryd.prog 7 #[.agg cs.toArray] w5 fun e w' => e = .returned (.agg (R.map bV).toArray) ∧ Below w5.heap.size w5 w') := by
    rw [hR]
    exact blroot_any startX0 _ w5 BA.out startX0_small (HK.out.below B5.out)
  have HR := Lib.hid hR
  clear hR
  go_wp2_with ((with_reducible show wpList _ _ _ _ _ _); refine wpList_load_row rfl 37 (.tmp 1) rfl g5 rfl 37 cs.toArray (0, 0) _ F5.out Tryd.underlying37 rfl (by rw [LS.out]; kernel_rfl) ?_; go_frame)
  refine RC.out.mono ?_
  rintro e w6 ⟨rfl, hb6⟩
  have K6 := Lib.hid (K5.out.below hb6)
  have N6 := Lib.hid (N5.out.trans (hb6.mono N5.out.size))
  have B6 := Lib.hid (B5.out.trans (hb6.mono B5.out.size))
  have FR6 := Lib.hid (row_below FR5.out hb6)
  clear hb6
  go_upto_region 3 with ((with_reducible show wpList _ _ _ _ _ _); refine st_blroot rfl (.tmp 10) (.tmp 8) rfl rfl R LR.out rfl startH_ok K6.out ?_; intro w7 k7 g7; have K7 := Lib.hid k7; have G7 := Lib.hid g7; clear k7 g7; go_frame)
  have FR7 := Lib.hid (row_far FR6.out G7.out (by intro h; have := Option.some.inj h; have := GB.out; omega))
  have B7 := Lib.hid (B6.out.grown G7.out B6.out.size (fun k hk => by cases hk; have := GB.out; omega))
  obtain ⟨hd, hhd⟩ : ∃ hd, hd = ({ startH with root := R } : THd) := ⟨_, rfl⟩
  rw [← hhd] at K7
  have HOK : Hid (HdOk hd) := by show HdOk _; rw [hhd, HR.out]; exact startX_ok
  have ON2 : Hid ((blL hd (.slice (some ⟨gt, 0, none⟩) 1 1)).toArray.all (·.oneCell') = true) := blL_one rfl
  have LS2 : Hid ((blL hd (.slice (some ⟨gt, 0, none⟩) 1 1)).toArray.size = 69) := blL_size HOK.out _
  obtain ⟨ds, hds⟩ : ∃ ds, ds = blL hd (.slice (some ⟨gt, 0, none⟩) 1 1) := ⟨_, rfl⟩
  have F7 : Hid (w7.heap[g5]? = some (.cells ds.toArray 37 (0, 0))) := by rw [hds]; exact K7.out.row
  rw [← hds] at ON2 LS2
  have HDS := Lib.hid hds
  have HHD := Lib.hid hhd
  clear hds hhd
  go_wp2_with ((with_reducible show wpList _ _ _ _ _ _); first | (refine wpList_load_row rfl 37 (.tmp 1) rfl g5 rfl 37 ds.toArray (0, 0) _ F7.out Tryd.underlying37 rfl (by rw [LS2.out]; kernel_rfl) ?_; go_frame) | (refine wpList_store_row rfl 37 (.tmp 0) (.tmp 11) rfl w.heap.size ds.toArray rfl rfl 37 _ FR7.out (by rw [LS2.out]; kernel_rfl) (by rw [LS2.out]; kernel_rfl) ON2.out ?_; go_frame))
  refine bodyPost_ret (results_cell_row rfl _ _ w.heap.size 37 ds.toArray (0, 0) _ rfl (setRow_heap _ _ _ _ _ _ FR7.out) Tryd.underlying37 rfl (by rw [LS2.out]; kernel_rfl)) rfl ?_
  have G8 : w7.grownBy (w7.setRow w.heap.size ds.toArray) (some w.heap.size) := setRow_grown _
  refine ⟨_, rfl, ⟨startX_ok, .slice (some ⟨gt, 0, none⟩) 1 1, ?_, ?_⟩, B7.out.grown G8 B7.out.size (fun k hk => by cases hk; exact Nat.le_refl _)⟩
  · rw [HDS.out, HHD.out, HR.out]
    rfl
  · exact TX4.out _ (((Kps.new N6.out).trans (Kps.grown G7.out (fun k _ h e => h.2 (Option.some.inj e)))).trans (Kps.grown G8 (fun k _ h e => by have := Option.some.inj e; have := LW2.out; have := h.1; omega)))
end Go.Proofs.YtcghbogkplcohaaDoor.Sha

/-
  Package block tells whether two inputs of a block's transactions have one place. Nothing that was there turns. Condition: a few transactions that lie in memory.
-/
namespace Go.Proofs.YtcghbogkplcohaaDoor.Sha
open Go Go.RowKit
open Go.Maps (addKey Keyed)
/-- All inputs of transactions, in their order. -/
def insAll (l : List TTx) : List TIn := l.flatMap (·.ins)
theorem insAll_snoc {l : List TTx} {k : Nat} {t : TTx} (h : l[k]? = some t) : insAll (l.take (k + 1)) = insAll (l.take k) ++ t.ins := by
  unfold insAll
  rw [List.take_add_one, h, List.flatMap_append]
  simp
theorem insAll_len : ∀ (l : List TTx), (∀ t ∈ l, TxSmall t) → (insAll l).length ≤ 1000 * l.length
  | [], _ => by simp [insAll]
  | t :: l, h => by
    have ih := insAll_len l (fun u hu => h u (List.mem_cons_of_mem _ hu))
    have h1 := (h t List.mem_cons_self).2.1
    show (t.ins ++ insAll l).length ≤ _
    rw [List.length_append, List.length_cons]
    omega
theorem insAll_ok (l : List TTx) (h : ∀ t ∈ l, TxSmall t) : InsOk (insAll l) := fun y hy => by
  obtain ⟨t, ht, hy⟩ := List.mem_flatMap.1 hy
  exact (h t ht).1.2.1 y hy
theorem placesD_push (l : List TIn) (x : TIn) : placesD (l ++ [x]) = (placesD l).put (ptLit x) (.agg []) := by
  unfold placesD
  rw [List.map_append]
  exact Maps.setOf_snoc _ _ _
theorem app_take {α : Type} (p : List α) {l : List α} {k : Nat} {x : α} (h : l[k]? = some x) : p ++ l.take (k + 1) = (p ++ l.take k) ++ [x] := by
  rw [List.take_add_one, h, List.append_assoc]
  rfl
def TwInv (n mb : Nat) (l : List TTx) (w1 : World) (vs vi : Value) (wr : World) : Prop :=
  ∃ k s : Nat, k ≤ n ∧ vi = .int .i64 k ∧ s = (insAll (l.take k)).length ∧ vs = .int .i64 s ∧ wr.ownsMap Tryd.prog 39 unitElem mb s (placesD (insAll (l.take k))) ∧ Below w1.heap.size w1 wr
def TwIn (n mb : Nat) (p l : List TIn) (w1 : World) (vi : Value) (wr : World) : Prop :=
  ∃ k : Nat, k ≤ n ∧ vi = .int .i64 k ∧ wr.ownsMap Tryd.prog 39 unitElem mb (p.length + k) (placesD (p ++ l.take k)) ∧ w1.grownBy wr (some mb)
set_option maxHeartbeats 2000000 in
set_option maxRecDepth 100000 in
theorem bltwice_any (l : List TTx) (v : Value) (w : World) (h1 : TxsAt w v l) (hs : ∀ t ∈ l, TxSmall t) (hl : l.length ≤ 1000) (b : Bool) (hb : b = twiceB (insAll l)) :
    Calls Tryd.prog 21 #[v] w fun e w' => e = .returned (.bool b) ∧ Below w.heap.size w w' := by
  have HBb := Lib.hid hb
  obtain ⟨sp, cap, rfl⟩ := h1.shape
  obtain ⟨n, hn⟩ : ∃ n, n = l.length := ⟨_, rfl⟩
  rw [← hn] at h1 ⊢
  have HT := Lib.hid h1
  have NN := Lib.hid hn
  have TS := Lib.hid hs
  have bn : n ≤ 1000 := by rw [hn]; exact hl
  have AL : Hid ((insAll l).length ≤ 1000000) := by show _ ≤ _; have := insAll_len l hs; omega
  clear hb h1 hn hs hl
  go_enter Tryd.func21, Tryd.ntmps21
  have hmm := @run_makeMap Tryd.prog
  obtain ⟨mb, hmb⟩ : ∃ mb, mb = w.heap.size := ⟨_, rfl⟩
  have MB : Hid (w.heap.size ≤ mb) := by show _ ≤ _; rw [hmb]; exact Nat.le_refl _
  have HOM : Hid ((w.alloc (.map #[] 0)).ownsMap Tryd.prog 39 unitElem mb 0 (placesD [])) := by rw [hmb]; exact World.ownsMap_made _ _ _ _
  have HBM : Hid (Below w.heap.size w (w.alloc (.map #[] 0))) := (Below.refl _ _).alloc (Nat.le_refl _) _
  go_wp2_with fail
  rw [← hmb]
  clear hmm hmb
  go_loopw [4, 12] (fun vs vi wr => TwInv n mb l w vs vi wr) (fun _ i _ => n - (intOf i).toNat)
  case atStart => exact ⟨0, 0, by omega, rfl, rfl, rfl, HOM.out, HBM.out⟩
  case round =>
    clear HOM HBM
    obtain ⟨k, s, hk, rfl, hs, rfl, HM, B⟩ := hrel
    have B := Lib.hid B
    have HM := Lib.hid HM
    have HSm := Lib.hid hs
    clear hs
    have B0 : Hid (Below w.heap.size w w) := Below.refl _ _
    by_cases hlt : k < n
    · skip
      obtain ⟨b, o, hs1, _, hg⟩ := HT.out.get (by omega)
      obtain ⟨t, hgt⟩ : ∃ t, l[k]? = some t := ⟨_, List.getElem?_eq_getElem (by have := NN.out; omega)⟩
      obtain ⟨iv, ov, hr, hta⟩ := hg k t hgt
      have LC : Hid ((txL t iv ov).length = 4) := rfl
      have LC' : Hid ((txL t iv ov).toArray.size = 4) := rfl
      have ONE : Hid ((txL t iv ov).toArray.all (·.oneCell') = true) := by
        obtain ⟨_, iv', ov', e, h1, h2⟩ := hta
        have e : txL t iv ov = txL t iv' ov' := by simpa using e
        rw [e]
        exact tx_one h1 h2
      obtain ⟨ct, hct⟩ : ∃ ct, ct = txL t iv ov := ⟨_, rfl⟩
      rw [← hct] at hr hta LC LC' ONE
      have R := Lib.hid (range_below (range_below hr B0.out) B.out)
      have TW := Lib.hid hta
      have TA : Hid (∀ W, Below wr.heap.size wr W → TxAt W (.agg ct.toArray) t) := fun W hW => ((hta.below B0.out).below B.out).below hW
      have GT := Lib.hid hgt
      have p0 : 0 ≤ (k : Int) := by omega
      have q0 : (k : Int) < (n : Int) := by omega
      subst hs1
      clear hg hgt hr hta hct
      obtain ⟨g5, hg5⟩ : ∃ g5, g5 = wr.heap.size := ⟨_, rfl⟩
      obtain ⟨_, f2, f3, f4⟩ := fill_setup (Below.refl wr.heap.size wr) [nV 0, .slice none 0 0, .slice none 0 0, nV 0].toArray ct.toArray 32
      go_upto_region 6 with ((with_reducible show wpList _ _ _ _ _ _); first | (refine wpList_load_mid rfl 32 (.tmp 14) rfl b (o + k * 4) rfl ct _ R.out Tryd.underlying32 rfl (by rw [LC.out]; kernel_rfl) ?_; go_frame) | (refine wpList_store_row rfl 32 (.tmp 6) (.tmp 15) rfl wr.heap.size ct.toArray rfl rfl 32 _ (heap_alloc_new _ _) (by rw [LC'.out]; kernel_rfl) (by rw [LC'.out]; rfl) ONE.out ?_; go_frame))
      rw [← hg5] at f2 f3 f4 ⊢
      generalize hw5 : World.setRow _ _ _ = w5
      have e5 : World.setRow (wr.alloc (.cells [nV 0, .slice none 0 0, .slice none 0 0, nV 0].toArray 32)) g5 ct.toArray = w5 := hw5
      rw [e5] at f2 f4
      rw [hg5] at f4
      have F5 := Lib.hid f2
      have N5 := Lib.hid f4
      have B5 := Lib.hid (B.out.trans (f4.mono B.out.size))
      have G5 := Lib.hid hg5
      clear f2 f3 f4 hg5 hw5 e5
      have HM5 := Lib.hid (HM.out.kept (grownBy_of_below N5.out none) (by simp))
      obtain ⟨_, iv2, ov2, hag, hi0, _⟩ := TW.out
      have hct2 : ct = txL t iv2 ov2 := by have := Value.agg.inj hag; have := congrArg Array.toList this; simpa using this
      obtain ⟨si, ci, rfl, hci, hi1⟩ := hi0
      obtain ⟨ni, hni⟩ : ∃ ni, ni = t.ins.length := ⟨_, rfl⟩
      rw [← hni] at hct2
      have FB := F5.out
      rw [hct2] at FB
      have C1 : Hid (∀ W, Below w5.heap.size w5 W → W.cell? ⟨g5, 1, none⟩ = some (.slice si ni ci)) := fun W hW => (tx_cells (row_below FB hW)).2.1
      have FB := Lib.hid FB
      have HI := Lib.hid hi1
      have MLT : Hid (mb < g5) := by show _ < _; rw [G5.out]; exact HM.out.lt
      have NI := Lib.hid hni
      have bni : ni ≤ 1000 := by rw [hni]; exact (TS.out t (List.mem_of_getElem? GT.out)).2.1
      have IOK : Hid (InsOk t.ins) := (TS.out t (List.mem_of_getElem? GT.out)).1.2.1
      have bs : s + ni ≤ 1000000 := by
        have h1 := AL.out
        have h2 : insAll l = insAll (l.take (k + 1)) ++ insAll (l.drop (k + 1)) := by unfold insAll; rw [← List.flatMap_append, List.take_append_drop]
        rw [h2, insAll_snoc GT.out] at h1
        simp only [List.length_append] at h1
        have := HSm.out
        have := NI.out
        omega
      have BS := Lib.hid bs
      clear hag hct2 hi1 hni hci HM TA bs ONE R LC LC'
      have c1 := C1.out w5 (Below.refl _ _)
      go_wp2_with fail
      clear c1
      obtain ⟨wo, rfl⟩ : ∃ wo : World, wo = wr := ⟨_, rfl⟩
      obtain ⟨p, hp⟩ : ∃ p, p = insAll (l.take k) := ⟨_, rfl⟩
      have HP := Lib.hid hp
      obtain rfl : s = p.length := by rw [hp]; exact HSm.out
      rw [← hp] at HM5
      clear hp HSm
      go_loopw [19] (fun vi wq => TwIn ni mb p t.ins w5 vi wq) (fun i _ => ni - (intOf i).toNat)
      case atStart => exact ⟨0, by omega, rfl, by simpa using HM5.out, grownBy_of_below (Below.refl _ _) _⟩
      case round =>
        clear HM5
        obtain ⟨j, hj, rfl, HQ, BQ⟩ := hrel
        have BQ := Lib.hid BQ
        have BW := Lib.hid (B5.out.grown BQ.out B5.out.size (fun q hq => by cases hq; exact MB.out))
        have HQ := Lib.hid HQ
        by_cases hlt2 : j < ni
        · have hkx : j < t.ins.length := by have := NI.out; omega
          obtain ⟨b1, o1, hs1, he1⟩ := HI.out (by omega)
          have g1 := he1 j _ (List.getElem?_eq_getElem hkx)
          obtain ⟨x, hx⟩ : ∃ x, x = t.ins[j] := ⟨_, rfl⟩
          rw [← hx] at g1
          have hgx : t.ins[j]? = some x := by rw [hx]; exact List.getElem?_eq_getElem _
          obtain ⟨hx1, kx, hkx2, hr1⟩ := g1
          obtain ⟨sx, cx, hkv⟩ := hkx2.2
          obtain ⟨kl, hkl⟩ : ∃ kl, kl = x.key.length := ⟨_, rfl⟩
          rw [← hkl] at hkv
          subst hkv
          have p0 : 0 ≤ (j : Int) := by omega
          have q0 : (j : Int) < (ni : Int) := by omega
          have R1 := Lib.hid (range_below hr1 BW.out)
          have GX := Lib.hid hgx
          have XOK := Lib.hid hx1
          have ONE := Lib.hid (in_one x (.slice sx kl cx) rfl)
          have LX : Hid ((inL x (.slice sx kl cx)).length = 35) := inL_length x _ hx1.1
          have LX' : Hid ((inL x (.slice sx kl cx)).toArray.size = 35) := by show _ = _; rw [List.size_toArray]; exact LX.out
          subst hs1
          clear hx hgx he1 hx1 hkx2 hr1 hkl hkx
          obtain ⟨g6, hg6⟩ : ∃ g6, g6 = wr.heap.size := ⟨_, rfl⟩
          obtain ⟨_, f2, f3, f4⟩ := fill_setup (Below.refl wr.heap.size wr) (List.replicate 32 (bV 0) ++ [nV 0, .slice none 0 0, nV 0]).toArray (inL x (.slice sx kl cx)).toArray 42
          go_upto_region 9 with ((with_reducible show wpList _ _ _ _ _ _); first | (refine wpList_load_mid rfl 42 (.tmp 21) rfl b1 (o1 + j * 35) rfl (inL x (.slice sx kl cx)) _ R1.out Tryd.underlying42 rfl (by rw [LX.out]; kernel_rfl) ?_; go_frame) | (refine wpList_store_row rfl 42 (.tmp 8) (.tmp 22) rfl wr.heap.size (inL x (.slice sx kl cx)).toArray rfl rfl 42 _ (heap_alloc_new _ _) (by rw [LX'.out]; kernel_rfl) (by rw [LX'.out]; rfl) ONE.out ?_; go_frame))
          rw [← hg6] at f2 f3 f4 ⊢
          generalize hw6 : World.setRow _ _ _ = w6
          have e6 : World.setRow (wr.alloc (.cells (List.replicate 32 (bV 0) ++ [nV 0, .slice none 0 0, nV 0]).toArray 42)) g6 (inL x (.slice sx kl cx)).toArray = w6 := hw6
          rw [e6] at f2 f4
          rw [hg6] at f4
          have F6 := Lib.hid f2
          have B6 := Lib.hid (grownBy_below' BQ.out f4)
          have HM6 := Lib.hid (HQ.out.kept (grownBy_of_below f4 none) (by simp))
          clear f2 f3 f4 hg6 hw6 e6 HQ
          have LP : Hid ((ptL x.h x.n).length = 33) := by show _ = _; simp [ptL, XOK.out.1]
          have RP := Lib.hid (in_pt (range_of_box F6.out))
          go_wp2_with ((with_reducible show wpList _ _ _ _ _ _); first | (refine wpList_load_mid rfl 39 (.tmp 24) rfl g6 0 rfl (ptL x.h x.n) _ RP.out Tryd.underlying39 rfl (by rw [LP.out]; kernel_rfl) ?_; go_frame) | (refine wpList_buildTo rfl 84 _ rfl _ rfl #[] (by kernel_rfl) ?_; go_frame) | (refine wpList_mapUpdate_own _ rfl _ _ _ 83 rfl 39 84 pt_law Tryd.underlying83 _ mb (p.length + j) _ rfl HM6.out (by have := BS.out; unfold maxLen; omega) _ _ (ptLit x) rfl rfl (pt_key x XOK.out) (.agg []) [] unitElem_mk ?_; intro w7 ho7 hg7; have H7 := Lib.hid ho7; have G7 := Lib.hid hg7; clear ho7 hg7; go_frame))
          go_roundw
          case rel =>
            refine ⟨j + 1, by omega, by go_num, ?_, grownBy_trans B6.out G7.out⟩
            rw [app_take p GX.out, placesD_push]
            exact H7.out
          case measure => simp [intOf]; omega
        · have hjn : j = ni := by omega
          have hge : ¬ (j : Int) < (ni : Int) := by omega
          have c1 : wr.cell? ⟨g5, 1, none⟩ = some (.slice si ni ci) := (tx_cells (row_far FB.out BQ.out (by have := MLT.out; intro h; cases h; omega))).2.1
          have u1 : IntKind.i64.wrap ((p.length : Int) + (ni : Int)) = (p.length : Int) + (ni : Int) := i64_stays (by have := BS.out; omega)
          go_wp2_with fail
          go_roundw
          case rel =>
            have e : insAll (l.take (k + 1)) = p ++ t.ins := by rw [insAll_snoc GT.out, HP.out]
            refine ⟨k + 1, p.length + ni, by omega, by go_num, by rw [e, List.length_append, NI.out], by go_num, ?_, BW.out⟩
            have h := HQ.out
            rw [hjn, NI.out, List.take_length] at h
            rw [e, NI.out]
            exact h
          case measure => simp [intOf]; omega
    · have hkn : k = n := by omega
      have hge : ¬ (k : Int) < (n : Int) := by omega
      have h := HM.out
      rw [hkn, NN.out, List.take_length] at h
      have HM2 := Lib.hid h
      have hs2 := HSm.out
      rw [hkn, NN.out, List.take_length] at hs2
      have SS := Lib.hid hs2
      clear h hs2 HM
      obtain ⟨D, hD⟩ : ∃ D, D = placesD (insAll l) := ⟨_, rfl⟩
      rw [← hD] at HM2
      obtain ⟨sz, hsz⟩ : ∃ sz, sz = Maps.size D := ⟨_, rfl⟩
      have HR : Hid (decide (sz < s) = b) := by
        show _ = _
        rw [HBb.out, ← (twice_keys (insAll l) (insAll_ok l TS.out)).2, hsz, hD, placesD_size, SS.out]
      have SZ := Lib.hid hsz
      clear hkn hD hsz SS
      by_cases hb2 : sz < s
      · have e1 : (sz : Int) < (s : Int) := by omega
        obtain rfl : true = b := by rw [← HR.out, decide_eq_true hb2]
        clear hb2
        go_wp2_with (at_len; refine wpList_len_own _ rfl _ 83 rfl 39 84 Tryd.underlying83 _ mb s D rfl HM2.out ?_; rw [← SZ.out]; go_frame)
        go_ret
        exact ⟨rfl, B.out⟩
      · have e1 : ¬ (sz : Int) < (s : Int) := by omega
        obtain rfl : false = b := by rw [← HR.out, decide_eq_false hb2]
        clear hb2
        go_wp2_with (at_len; refine wpList_len_own _ rfl _ 83 rfl 39 84 Tryd.underlying83 _ mb s D rfl HM2.out ?_; rw [← SZ.out]; go_frame)
        go_ret
        exact ⟨rfl, B.out⟩
end Go.Proofs.YtcghbogkplcohaaDoor.Sha

/-
  Package head checks a header's work; a header's digest; the statements' first. Nothing that was there turns. Conditions: those that each states.
-/
namespace Go.Proofs.YtcghbogkplcohaaDoor.Sha
open Go Go.RowKit
/-- Is the work out of its range? -/
def workB (n : Nat) : Bool := decide (n = 0) || decide (16777216 < n)
set_option maxRecDepth 100000 in
theorem check_hd (h : THd) (hh : HdOk h) (w : World) (x : Addr) (hx : w.cell? ⟨4, 0, none⟩ = some (.iface 127 (.pointer (some x)))) (v : Value) (hv : v = if workB h.work then .iface 127 (.pointer (some x)) else .nilIface) :
    Calls Tryd.prog 18 #[.agg (hdL h).toArray] w fun e w' => e = .returned v ∧ Below w.heap.size w w' := by
  have HH := Lib.hid hh
  have HX := Lib.hid hx
  have HV := Lib.hid hv
  obtain ⟨cs, hcs⟩ : ∃ cs, cs = hdL h := ⟨_, rfl⟩
  rw [← hcs]
  have CS := Lib.hid hcs
  clear hcs hh hx hv
  go_enter Tryd.func18, Tryd.ntmps18
  go_upto_region 1 with fail
  rw [CS.out]
  obtain ⟨B, F⟩ := hd_box w h
  generalize hw1 : World.alloc w _ = w1
  rw [hw1] at B F
  have gx : w1.cell? ⟨4, 0, none⟩ = some (.iface 127 (.pointer (some x))) := by
    rw [B.cell (World.block_lt_of_cell? w _ HX.out)]
    exact HX.out
  have c66 := (F.cells HH.out).2.2.1
  obtain ⟨n, hn⟩ : ∃ n, n = h.work := ⟨_, rfl⟩
  rw [← hn] at c66
  have B := Lib.hid B
  have hv := HV.out
  rw [← hn] at hv
  clear F hw1 hn CS HV
  unfold workB at hv
  by_cases h1 : n = 0
  · subst h1
    obtain rfl : v = .iface 127 (.pointer (some x)) := hv
    go_wp2_with fail
    go_ret
    exact ⟨rfl, B.out⟩
  have t1 : ((n : Int) == 0) = false := by rw [beq_eq_false_iff_ne]; omega
  by_cases h2 : 16777216 < n
  · have t2 : (16777216 : Int) < (n : Int) := by omega
    obtain rfl : v = .iface 127 (.pointer (some x)) := by rw [hv, decide_eq_false h1, decide_eq_true h2]; rfl
    clear h1 h2 hv
    go_wp2_with fail
    go_ret
    exact ⟨rfl, B.out⟩
  · have t2 : ¬ (16777216 : Int) < (n : Int) := by omega
    obtain rfl : v = .nilIface := by rw [hv, decide_eq_false h1, decide_eq_false h2]; rfl
    clear h1 h2 hv
    go_wp2_with fail
    go_ret
    exact ⟨rfl, B.out⟩
end Go.Proofs.YtcghbogkplcohaaDoor.Sha
