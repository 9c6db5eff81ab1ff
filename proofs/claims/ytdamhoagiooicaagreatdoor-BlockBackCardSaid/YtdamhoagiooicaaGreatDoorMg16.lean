/-
  Texts of this proof joined into one file: MkCalls, BlIds, BlTwice, HdStore, HdCheck, Flt, BlFine, BlStore, TxsOwn. What each holds, and under which conditions, its own first sentence tells.
-/
import Derived.IntWalk
import Derived.Test.YtdamhoagiooicaaGreatDoorMg15
import Derived.Test.YtdamhoagiooicaaGreatDoorMg02
import Derived.Test.YtdamhoagiooicaaGreatDoorMg10
import Derived.Test.YtdamhoagiooicaaGreatDoorMg13
import Derived.Test.YtdamhoagiooicaaGreatDoorMg14
import Derived.Test.YtdamhoagiooicaaGreatDoorMg09
import Derived.Test.YtdamhoagiooicaaGreatDoorMg01
import Derived.Test.YtdamhoagiooicaaGreatDoorMg03
import Derived.Test.YtdamhoagiooicaaGreatDoorMg08
/-
  The calls on rows of digests, for any value that reads so. Nothing that was there turns. Conditions: as told; for package merkle's the table is there.
-/
namespace Go.Proofs.YtdamhoagiooicaaGreatDoor.Sha
open Go Go.RowKit
theorem root_v (l : List (List UInt8)) (R : List UInt8) (v : Value) (w : World) (hk : KTab w) (h : HsAt w v l) (hn : l.length ≤ 1048576) (hR : rootL prH zM l = R) :
    Calls Tryz.prog 47 #[v] w fun e w' => e = .returned (.agg (R.map bV).toArray) ∧ Below w.heap.size w w' := by
  obtain ⟨sp, cap, rfl⟩ := h.shape
  subst hR
  exact root_any l sp _ cap w hk h hn
theorem same_v (x y : List UInt8) (r : Bool) (hx : x.length = 32) (hy : y.length = 32) (hr : r = decide (x = y)) (w : World) :
    Calls Tryz.prog 13 #[.agg (x.map bV).toArray, .agg (y.map bV).toArray] w fun e w' => e = .returned (.bool r) ∧ Below w.heap.size w w' := by
  rw [hr]
  exact same_any x y hx hy w
theorem HsOwn.base {b b' : Nat} {w : World} {v : Value} {l : List (List UInt8)} (h : HsOwn b w v l) (hb : b' ≤ b) : HsOwn b' w v l := ⟨own_base h.1 hb, h.2⟩
/-- A whole box of digests. -/
theorem hs_box {w : World} {g : Nat} {l : List (List UInt8)} (h : w.heap[g]? = some (.cells (hsL l).toArray 24 (0, 0))) (ho : HsOk l) (hn : l.length ≤ 1048576) : HsAt w (.slice (some ⟨g, 0, none⟩) l.length l.length) l :=
  HsOwn.at (base := 0) ⟨own_of_row h (Nat.zero_le _) (hsL_length l ho) (by unfold maxLen; omega), ho⟩
theorem hs_box1 {w : World} {g : Nat} {x : List UInt8} (h : w.heap[g]? = some (.cells (x.map bV).toArray 24 (0, 0))) (hx : x.length = 32) : HsAt w (.slice (some ⟨g, 0, none⟩) 1 1) [x] :=
  hs_box (l := [x]) (by rw [show hsL [x] = x.map bV by simp [hsL]]; exact h) (fun y hy => by rw [List.mem_singleton.1 hy]; exact hx) (by simp)
theorem hs_box2 {w : World} {g : Nat} {x y : List UInt8} (h : w.heap[g]? = some (.cells (x.map bV ++ y.map bV).toArray 24 (0, 0))) (hx : x.length = 32) (hy : y.length = 32) : HsAt w (.slice (some ⟨g, 0, none⟩) 2 2) [x, y] :=
  hs_box (l := [x, y]) (by rw [show hsL [x, y] = x.map bV ++ y.map bV by simp [hsL]]; exact h) (fun z hz => by
    simp only [List.mem_cons, List.not_mem_nil, or_false] at hz
    rcases hz with rfl | rfl
    · exact hx
    · exact hy) (by simp)
def h1M : List UInt8 := 1 :: List.replicate 31 0
theorem h1M_length : h1M.length = 32 := by simp [h1M]
end Go.Proofs.YtdamhoagiooicaaGreatDoor.Sha

/-
  Package block answers the digests that a block's transactions go by, their root, its own. New memory; nothing that was there turns. Conditions: a block of a few transactions that lies in memory; the table is there.
-/
namespace Go.Proofs.YtdamhoagiooicaaGreatDoor.Sha
open Go Go.RowKit
/-- The digests that transactions go by. -/
def idsL (l : List TTx) : List (List UInt8) := l.map fun t => sha (sha (txB t))
theorem idsL_ok (l : List TTx) : HsOk (idsL l) := fun y hy => by
  obtain ⟨t, _, rfl⟩ := List.mem_map.1 hy
  exact sha_length _
theorem idsL_snoc {l : List TTx} {k : Nat} {t : TTx} (h : l[k]? = some t) : idsL (l.take (k + 1)) = idsL (l.take k) ++ [sha (sha (txB t))] := by
  unfold idsL
  rw [List.take_add_one, h, List.map_append]
  rfl
theorem idsL_length (l : List TTx) : (idsL l).length = l.length := by simp [idsL]
def IdInv (n : Nat) (l : List TTx) (w1 : World) (vb vi : Value) (wr : World) : Prop :=
  ∃ (k : Nat) (vq : Value), vq = vb ∧ k ≤ n ∧ vi = .int .i64 k ∧ HsOwn w1.heap.size wr vq (idsL (l.take k)) ∧ Below w1.heap.size w1 wr
set_option maxHeartbeats 2000000 in
set_option maxRecDepth 100000 in
theorem ids_any (x : TBlk) (v : Value) (w : World) (h1 : BlkAt w v x) (hs : BlkSmall x) (hk : KTab w) :
    Calls Tryz.prog 20 #[v] w fun e w' => ∃ v', e = .returned v' ∧ HsOwn w.heap.size w' v' (idsL x.txs) ∧ Below w.heap.size w w' := by
  obtain ⟨i0, hi, hz0, hz1, hz2⟩ := info_parts info_hash
  have HK := Lib.hid hk
  clear hk
  obtain ⟨hh, tv, rfl, ht⟩ := h1
  obtain ⟨sp, cap, rfl⟩ := ht.shape
  obtain ⟨n, hn⟩ : ∃ n, n = x.txs.length := ⟨_, rfl⟩
  rw [← hn] at ht ⊢
  have hcap : n ≤ cap := ht.len.2
  obtain ⟨cs, hcs⟩ : ∃ cs, cs = blL x.head (.slice sp n cap) := ⟨_, rfl⟩
  rw [← hcs]
  have CS := Lib.hid hcs
  have LCS : Hid (cs.length = 69) := by show _ = _; rw [hcs]; exact blL_length hh _
  have LCS' : Hid (cs.toArray.size = 69) := by show _ = _; rw [hcs]; exact blL_size hh _
  have BV : Hid (∀ W, Below w.heap.size w W → BlkAt W (.agg cs.toArray) x) := fun W hW => by rw [hcs]; exact ⟨hh, _, rfl, ht.below hW⟩
  have HH := Lib.hid hh
  have HT := Lib.hid ht
  have NN := Lib.hid hn
  have TS := Lib.hid hs
  have bn : n ≤ 1000 := by rw [hn]; exact hs.2
  clear hs
  clear hcs hh ht hn
  go_enter Tryz.func20, Tryz.ntmps20
  go_upto_region 1 with fail
  have f0 := heap_alloc_new w (.cells cs.toArray 29 (0, 0))
  have b0 := (Below.refl w.heap.size w).alloc (Nat.le_refl _) (.cells cs.toArray 29 (0, 0))
  generalize hw1 : World.alloc _ _ = w1
  have e1 : w.alloc (.cells cs.toArray 29 (0, 0)) = w1 := hw1
  rw [e1] at f0 b0
  have k0 := f0
  rw [CS.out] at k0
  have K : Hid (BlBox w1 w.heap.size x.head (.slice sp n cap)) := ⟨k0⟩
  have F0 := Lib.hid f0
  have B0 := Lib.hid b0
  clear hw1 e1 f0 b0 k0
  have c68 : w1.cell? ⟨w.heap.size, 68, none⟩ = some (.slice sp n cap) := K.out.txs HH.out
  go_upto_region 2 with (at_make; refine wpList_make_own _ rfl _ _ 46 rfl w1.heap.size 24 i0 (.agg (List.replicate 32 (bV 0)).toArray) 32 Tryz.underlying46 hi hz0 hz1 _ _ _ n rfl rfl (by omega) (by rw [hz2]; omega) (by unfold maxLen; omega) (Nat.le_refl _) ?_; intro w2 hown hgrow; have HO0 := Lib.hid hown; have HG0 := Lib.hid hgrow; clear hown hgrow; go_frame)
  have HB0 := Lib.hid ((Below.refl _ _).grown HG0.out (Nat.le_refl _) (fun k hk => by cases hk))
  have HST : Hid (HsOwn w1.heap.size w2 (.slice (some ⟨w1.heap.size, 0, none⟩) 0 n) (idsL (x.txs.take 0))) := ⟨HO0.out, fun x hx => by simp [idsL] at hx⟩
  clear HO0 HG0 c68
  have c68 : w2.cell? ⟨w.heap.size, 68, none⟩ = some (.slice sp n cap) := (K.out.below HB0.out).txs HH.out
  go_wp2_with fail
  clear c68
  go_loopw [3, 13] (fun vb vi wr => IdInv n x.txs w1 vb vi wr) (fun _ i _ => n - (intOf i).toNat)
  case atStart => exact ⟨0, _, rfl, by omega, rfl, HST.out, HB0.out⟩
  case round =>
    clear HST HB0
    obtain ⟨k, vb, rfl, hk, rfl, HO, B⟩ := hrel
    have HO := Lib.hid HO
    have B := Lib.hid B
    by_cases hlt : k < n
    · skip
      obtain ⟨b, o, hs1, _, hg⟩ := HT.out.get (by omega)
      obtain ⟨t, hgt⟩ : ∃ t, x.txs[k]? = some t := ⟨_, List.getElem?_eq_getElem (by have := NN.out; omega)⟩
      obtain ⟨iv, ov, hr, hta⟩ := hg k t hgt
      have LC : Hid ((txL t iv ov).length = 4) := rfl
      have LC' : Hid ((txL t iv ov).toArray.size = 4) := rfl
      have ONE : Hid ((txL t iv ov).toArray.all (·.oneCell') = true) := by
        obtain ⟨_, iv', ov', e, h1, h2⟩ := hta
        have e : txL t iv ov = txL t iv' ov' := by simpa using e
        rw [e]
        exact tx_one h1 h2
      obtain ⟨ct, hct⟩ : ∃ ct, ct = txL t iv ov := ⟨_, rfl⟩
      rw [← hct] at hr hta LC LC' ONE
      have R := Lib.hid (range_below (range_below hr B0.out) B.out)
      have TA : Hid (∀ W, Below wr.heap.size wr W → TxAt W (.agg ct.toArray) t) := fun W hW => ((hta.below B0.out).below B.out).below hW
      have GT := Lib.hid hgt
      have p0 : 0 ≤ (k : Int) := by omega
      have q0 : (k : Int) < (n : Int) := by omega
      subst hs1
      clear hg hgt hr hta hct
      obtain ⟨g5, hg5⟩ : ∃ g5, g5 = wr.heap.size := ⟨_, rfl⟩
      obtain ⟨_, f2, f3, f4⟩ := fill_setup (Below.refl wr.heap.size wr) [nV 0, .slice none 0 0, .slice none 0 0, nV 0].toArray ct.toArray 66
      go_upto_region 5 with ((with_reducible show wpList _ _ _ _ _ _); first | (refine wpList_load_mid rfl 66 (.tmp 15) rfl b (o + k * 4) rfl ct _ R.out Tryz.underlying66 rfl (by rw [LC.out]; kernel_rfl) ?_; go_frame) | (refine wpList_store_row rfl 66 (.tmp 5) (.tmp 16) rfl wr.heap.size ct.toArray rfl rfl 66 _ (heap_alloc_new _ _) (by rw [LC'.out]; kernel_rfl) (by rw [LC'.out]; rfl) ONE.out ?_; go_frame))
      rw [← hg5] at f2 f3 f4 ⊢
      generalize hw5 : World.setRow _ _ _ = w5
      have e5 : World.setRow (wr.alloc (.cells [nV 0, .slice none 0 0, .slice none 0 0, nV 0].toArray 66)) g5 ct.toArray = w5 := hw5
      rw [e5] at f2 f4
      rw [hg5] at f4
      have F5 := Lib.hid f2
      have N5 := Lib.hid f4
      have B5 := Lib.hid (B.out.trans (f4.mono B.out.size))
      have G5 := Lib.hid hg5
      clear f2 f3 f4 hg5 hw5 e5
      have HO5 := Lib.hid (HO.out.keep N5.out)
      obtain ⟨d, hd⟩ : ∃ d, d = sha (sha (txB t)) := ⟨_, rfl⟩
      have LD : Hid (d.length = 32) := by show _ = _; rw [hd]; exact sha_length _
      have LX : Hid ((d.map bV).length = 32) := by show _ = _; rw [List.length_map, LD.out]
      have IDC : Hid (Calls Tryz.prog 50 #[.agg ct.toArray] w5 fun e w' => e = .returned (.agg (d.map bV).toArray) ∧ Below w5.heap.size w5 w') := by
        rw [hd]
        exact id_of bytes_all t _ w5 ((HK.out.below B0.out).below B5.out) (TA.out _ N5.out) (TS.out.1 t (List.mem_of_getElem? GT.out))
      have HTL : Hid ((idsL (x.txs.take k)).length ≤ 1048576) := by show _ ≤ _; rw [idsL_length, List.length_take]; omega
      have HD := Lib.hid hd
      clear hd HO
      go_wp2_with ((with_reducible show wpList _ _ _ _ _ _); (refine wpList_load_row rfl 66 (.tmp 5) rfl g5 rfl 66 ct.toArray (0, 0) _ F5.out Tryz.underlying66 rfl (by rw [LC'.out]; kernel_rfl) ?_; go_frame))
      refine IDC.out.mono ?_
      rintro e w6 ⟨rfl, hb6⟩
      have HO6 := Lib.hid (HO5.out.keep hb6)
      have B6 := Lib.hid (B5.out.trans (hb6.mono B5.out.size))
      clear hb6 HO5 IDC
      go_wp2_with (first | ((with_reducible show wpList _ _ _ _ _ _); (refine wpList_slice_one rfl 46 24 (.tmp 19) rfl (d.map bV) rfl Tryz.underlying46 i0 _ hi hz0 (by rw [hz1, LX.out]) (by rw [LX.out]; omega) (by rw [LX.out]; omega) ?_; have nf := heap_alloc_new w6 (.cells (d.map bV).toArray 24 (0, 0)); have bb := (Below.refl w6.heap.size w6).alloc (Nat.le_refl _) (.cells (d.map bV).toArray 24 (0, 0)); obtain ⟨gn, hgn⟩ : ∃ gn, gn = w6.heap.size := ⟨_, rfl⟩; generalize hw7 : World.alloc _ _ = w7; have e2 : w6.alloc (.cells (d.map bV).toArray 24 (0, 0)) = w7 := hw7; rw [e2] at nf bb; rw [← hgn] at nf ⊢; have NF := Lib.hid nf; have HO7 := Lib.hid (HO6.out.keep bb); have B7 := Lib.hid (B6.out.trans (bb.mono B6.out.size)); clear nf bb hw7 e2 hgn; go_frame)) | (at_builtin; refine wpList_append_own_at _ rfl _ _ 46 rfl w1.heap.size 24 i0 (.agg (List.replicate 32 (bV 0)).toArray) 32 32 Tryz.underlying46 hi hz0 hz1 hz2 (by kernel_rfl) (by decide) vb _ (hsL (idsL (x.txs.take k))) rfl HO7.out.1 ⟨gn, 0, none⟩ 1 1 (d.map bV) rfl (by rw [LX.out]) (hs_one NF.out) (bV_one' _) (by have := HTL.out; unfold maxLen; omega) (by have := HTL.out; omega) B7.out.size ?_; intro v8 w8 q1 q2 _ q4; have HO8 := Lib.hid (HsOwn.push (base := w1.heap.size) HO7.out.2 LD.out q1); have B8 := Lib.hid (own_grown B7.out (Nat.le_refl _) B7.out.size HO7.out.1 q2); clear q1 q2 q4; go_frame))
      go_roundw
      case rel => exact ⟨k + 1, _, rfl, by omega, by go_num, by rw [idsL_snoc GT.out, ← HD.out]; exact HO8.out, B8.out⟩
      case measure => simp [intOf]; omega
    · have hkn : k = n := by omega
      have hge : ¬ (k : Int) < (n : Int) := by omega
      have HF : Hid (HsOwn w1.heap.size wr vb (idsL x.txs)) := by
        have h := HO.out
        rw [hkn, NN.out, List.take_length] at h
        exact h
      clear HO hkn
      go_wp2_with fail
      go_ret
      exact ⟨_, rfl, HF.out.base B0.out.size, B0.out.trans (B.out.mono B0.out.size)⟩
/-- The root of a block's transactions. -/
def blRoot (x : TBlk) : List UInt8 := rootL prH zM (idsL x.txs)
theorem blRoot_length (x : TBlk) : (blRoot x).length = 32 := rootL_len _ _ rfl (idsL_ok _)
set_option maxHeartbeats 1000000 in
set_option maxRecDepth 100000 in
theorem blroot_any (x : TBlk) (v : Value) (w : World) (h1 : BlkAt w v x) (hs : BlkSmall x) (hk : KTab w) :
    Calls Tryz.prog 16 #[v] w fun e w' => e = .returned (.agg ((blRoot x).map bV).toArray) ∧ Below w.heap.size w w' := by
  have HK := Lib.hid hk
  clear hk
  obtain ⟨R, hR⟩ : ∃ R, R = blRoot x := ⟨_, rfl⟩
  have LR : Hid (R.length = 32) := by show _ = _; rw [hR]; exact blRoot_length x
  have HR : Hid (rootL prH zM (idsL x.txs) = R) := hR.symm
  rw [← hR]
  obtain ⟨dg, hdg⟩ : ∃ dg, dg = (R.map bV).toArray := ⟨_, rfl⟩
  have HOne : Hid (dg.all (·.oneCell') = true) := by show _ = _; rw [hdg]; exact bV_one R
  have HLen : Hid (dg.size = 32) := by show _ = _; rw [hdg]; simp [LR.out]
  have HD := Lib.hid hdg
  rw [← hdg]
  clear hR hdg
  obtain ⟨hh, tv, rfl, ht⟩ := h1
  obtain ⟨sp, cap, rfl⟩ := ht.shape
  obtain ⟨n, hn⟩ : ∃ n, n = x.txs.length := ⟨_, rfl⟩
  rw [← hn] at ht ⊢
  have hcap : n ≤ cap := ht.len.2
  obtain ⟨cs, hcs⟩ : ∃ cs, cs = blL x.head (.slice sp n cap) := ⟨_, rfl⟩
  rw [← hcs]
  have CS := Lib.hid hcs
  have LCS : Hid (cs.length = 69) := by show _ = _; rw [hcs]; exact blL_length hh _
  have LCS' : Hid (cs.toArray.size = 69) := by show _ = _; rw [hcs]; exact blL_size hh _
  have BV : Hid (∀ W, Below w.heap.size w W → BlkAt W (.agg cs.toArray) x) := fun W hW => by rw [hcs]; exact ⟨hh, _, rfl, ht.below hW⟩
  have HH := Lib.hid hh
  have HT := Lib.hid ht
  have NN := Lib.hid hn
  have TS := Lib.hid hs
  have bn : n ≤ 1000 := by rw [hn]; exact hs.2
  clear hs
  clear hcs hh ht hn
  go_enter Tryz.func16, Tryz.ntmps16
  go_upto_region 1 with fail
  have f0 := row_below (heap_alloc_new w (.cells cs.toArray 29 (0, 0))) ((Below.refl _ _).alloc (Nat.le_refl _) (.cells (List.replicate 32 (bV 0)).toArray 24))
  have f2 := heap_alloc_new (w.alloc (.cells cs.toArray 29 (0, 0))) (.cells (List.replicate 32 (bV 0)).toArray 24)
  have b0 := ((Below.refl w.heap.size w).alloc (Nat.le_refl _) (.cells cs.toArray 29 (0, 0))).alloc (by simp) (.cells (List.replicate 32 (bV 0)).toArray 24)
  rw [World.size_alloc] at f2
  generalize hw1 : World.alloc _ _ = w1
  have e1 : (w.alloc (.cells cs.toArray 29 (0, 0))).alloc (.cells (List.replicate 32 (bV 0)).toArray 24) = w1 := hw1
  rw [e1] at f0 f2 b0
  have F2 := Lib.hid f2
  clear f2
  have k0 := f0
  rw [CS.out] at k0
  have K : Hid (BlBox w1 w.heap.size x.head (.slice sp n cap)) := ⟨k0⟩
  have F0 := Lib.hid f0
  have B0 := Lib.hid b0
  clear hw1 e1 f0 b0 k0
  have HN : Hid ((idsL x.txs).length ≤ 1048576) := by show _ ≤ _; rw [idsL_length, ← NN.out]; omega
  go_wp2_with ((with_reducible show wpList _ _ _ _ _ _); (refine wpList_load_row rfl 29 (.tmp 1) rfl w.heap.size rfl 29 cs.toArray (0, 0) _ F0.out Tryz.underlying29 rfl (by rw [LCS'.out]; kernel_rfl) ?_; go_frame))
  refine (ids_any x _ w1 (BV.out w1 B0.out) TS.out (HK.out.below B0.out)).mono ?_
  rintro e w2 ⟨v2, rfl, ho, hb2⟩
  have HA := Lib.hid ho.at
  have B2 := Lib.hid (B0.out.trans (hb2.mono B0.out.size))
  have F3 := Lib.hid (row_below F2.out hb2)
  clear ho hb2
  have RT := root_v (idsL x.txs) R v2 w2 (HK.out.below B2.out) HA.out HN.out HR.out
  rw [← HD.out] at RT
  go_wp2_with fail
  refine RT.mono ?_
  rintro e w3 ⟨rfl, hb3⟩
  clear RT
  have B3 := Lib.hid (B2.out.trans (hb3.mono B2.out.size))
  have F4 := Lib.hid (row_below F3.out hb3)
  clear hb3
  go_wp2_with ((with_reducible show wpList _ _ _ _ _ _); refine wpList_store_row rfl 24 (.tmp 2) (.tmp 5) rfl (w.heap.size + 1) dg rfl rfl 24 _ F4.out (by rw [HLen.out]; kernel_rfl) (by rw [HLen.out]; rfl) HOne.out ?_; go_frame)
  refine bodyPost_ret (results_cell_row rfl _ _ (w.heap.size + 1) 24 dg (0, 0) (.array 32 5) rfl (setRow_heap _ _ _ _ _ _ F4.out) Tryz.underlying24 rfl (by rw [HLen.out]; kernel_rfl)) rfl ⟨rfl, below_setRow B3.out (Nat.le_succ _) _⟩
set_option maxHeartbeats 1000000 in
set_option maxRecDepth 100000 in
theorem blid_any (x : TBlk) (v : Value) (w : World) (h1 : BlkAt w v x) (hk : KTab w) :
    Calls Tryz.prog 14 #[v] w fun e w' => e = .returned (.agg ((hdId x.head).map bV).toArray) ∧ Below w.heap.size w w' := by
  have HK := Lib.hid hk
  clear hk
  obtain ⟨R, hR⟩ : ∃ R, R = hdId x.head := ⟨_, rfl⟩
  have LR : Hid (R.length = 32) := by show _ = _; rw [hR]; exact hdId_length _
  rw [← hR]
  obtain ⟨dg, hdg⟩ : ∃ dg, dg = (R.map bV).toArray := ⟨_, rfl⟩
  have HOne : Hid (dg.all (·.oneCell') = true) := by show _ = _; rw [hdg]; exact bV_one R
  have HLen : Hid (dg.size = 32) := by show _ = _; rw [hdg]; simp [LR.out]
  have hD2 : dg = ((hdId x.head).map bV).toArray := by rw [hdg, hR]
  have HD := Lib.hid hD2
  rw [← hdg]
  clear hR hdg hD2
  obtain ⟨hh, tv, rfl, ht⟩ := h1
  obtain ⟨sp, cap, rfl⟩ := ht.shape
  obtain ⟨n, hn⟩ : ∃ n, n = x.txs.length := ⟨_, rfl⟩
  rw [← hn] at ht ⊢
  have hcap : n ≤ cap := ht.len.2
  obtain ⟨cs, hcs⟩ : ∃ cs, cs = blL x.head (.slice sp n cap) := ⟨_, rfl⟩
  rw [← hcs]
  have CS := Lib.hid hcs
  have LCS : Hid (cs.length = 69) := by show _ = _; rw [hcs]; exact blL_length hh _
  have LCS' : Hid (cs.toArray.size = 69) := by show _ = _; rw [hcs]; exact blL_size hh _
  have BV : Hid (∀ W, Below w.heap.size w W → BlkAt W (.agg cs.toArray) x) := fun W hW => by rw [hcs]; exact ⟨hh, _, rfl, ht.below hW⟩
  have HH := Lib.hid hh
  have HT := Lib.hid ht
  have NN := Lib.hid hn
  clear hcs hh ht hn
  go_enter Tryz.func14, Tryz.ntmps14
  go_upto_region 1 with fail
  have f0 := row_below (heap_alloc_new w (.cells cs.toArray 29 (0, 0))) ((Below.refl _ _).alloc (Nat.le_refl _) (.cells (List.replicate 32 (bV 0)).toArray 24))
  have f2 := heap_alloc_new (w.alloc (.cells cs.toArray 29 (0, 0))) (.cells (List.replicate 32 (bV 0)).toArray 24)
  have b0 := ((Below.refl w.heap.size w).alloc (Nat.le_refl _) (.cells cs.toArray 29 (0, 0))).alloc (by simp) (.cells (List.replicate 32 (bV 0)).toArray 24)
  rw [World.size_alloc] at f2
  generalize hw1 : World.alloc _ _ = w1
  have e1 : (w.alloc (.cells cs.toArray 29 (0, 0))).alloc (.cells (List.replicate 32 (bV 0)).toArray 24) = w1 := hw1
  rw [e1] at f0 f2 b0
  have F2 := Lib.hid f2
  clear f2
  have k0 := f0
  rw [CS.out] at k0
  have K : Hid (BlBox w1 w.heap.size x.head (.slice sp n cap)) := ⟨k0⟩
  have F0 := Lib.hid f0
  have B0 := Lib.hid b0
  clear hw1 e1 f0 b0 k0
  have IDH : Hid (∀ W, KTab W → Calls Tryz.prog 45 #[.agg (hdL x.head).toArray] W fun e w' => e = .returned (.agg dg) ∧ Below W.heap.size W w') := fun W hW => by
    have h := id_hd x.head HH.out W hW
    rw [← HD.out] at h
    exact h
  have HR : Hid (w1.rangeAt w.heap.size 0 (hdL x.head)) := K.out.head
  have HL : Hid ((hdL x.head).length = 68) := hdL_length HH.out
  obtain ⟨hl, hhl⟩ : ∃ hl, hl = hdL x.head := ⟨_, rfl⟩
  rw [← hhl] at IDH HR HL
  clear hhl
  go_wp2_with ((with_reducible show wpList _ _ _ _ _ _); refine wpList_load_mid rfl 26 (.tmp 3) rfl w.heap.size 0 rfl hl _ HR.out Tryz.underlying26 rfl (by rw [HL.out]; kernel_rfl) ?_; go_frame)
  refine (IDH.out w1 (HK.out.below B0.out)).mono ?_
  rintro e w3 ⟨rfl, hb3⟩
  have B3 := Lib.hid (B0.out.trans (hb3.mono B0.out.size))
  have F4 := Lib.hid (row_below F2.out hb3)
  clear hb3
  go_wp2_with ((with_reducible show wpList _ _ _ _ _ _); refine wpList_store_row rfl 24 (.tmp 2) (.tmp 5) rfl (w.heap.size + 1) dg rfl rfl 24 _ F4.out (by rw [HLen.out]; kernel_rfl) (by rw [HLen.out]; rfl) HOne.out ?_; go_frame)
  refine bodyPost_ret (results_cell_row rfl _ _ (w.heap.size + 1) 24 dg (0, 0) (.array 32 5) rfl (setRow_heap _ _ _ _ _ _ F4.out) Tryz.underlying24 rfl (by rw [HLen.out]; kernel_rfl)) rfl ⟨rfl, below_setRow B3.out (Nat.le_succ _) _⟩
end Go.Proofs.YtdamhoagiooicaaGreatDoor.Sha

/-
  Package block tells whether two inputs of a block's transactions have one place. Nothing that was there turns. Condition: a few transactions that lie in memory.
-/
namespace Go.Proofs.YtdamhoagiooicaaGreatDoor.Sha
open Go Go.RowKit
open Go.Maps (addKey Keyed)
/-- All inputs of transactions, in their order. -/
def insAll (l : List TTx) : List TIn := l.flatMap (·.ins)
theorem insAll_snoc {l : List TTx} {k : Nat} {t : TTx} (h : l[k]? = some t) : insAll (l.take (k + 1)) = insAll (l.take k) ++ t.ins := by
  unfold insAll
  rw [List.take_add_one, h, List.flatMap_append]
  simp
theorem insAll_len : ∀ (l : List TTx), (∀ t ∈ l, TxSmall t) → (insAll l).length ≤ 1000 * l.length
  | [], _ => by simp [insAll]
  | t :: l, h => by
    have ih := insAll_len l (fun u hu => h u (List.mem_cons_of_mem _ hu))
    have h1 := (h t List.mem_cons_self).2.1
    show (t.ins ++ insAll l).length ≤ _
    rw [List.length_append, List.length_cons]
    omega
theorem insAll_ok (l : List TTx) (h : ∀ t ∈ l, TxSmall t) : InsOk (insAll l) := fun y hy => by
  obtain ⟨t, ht, hy⟩ := List.mem_flatMap.1 hy
  exact (h t ht).1.2.1 y hy
theorem placesD_push (l : List TIn) (x : TIn) : placesD (l ++ [x]) = (placesD l).put (ptLit x) (.agg []) := by
  unfold placesD
  rw [List.map_append]
  exact Maps.setOf_snoc _ _ _
theorem app_take {α : Type} (p : List α) {l : List α} {k : Nat} {x : α} (h : l[k]? = some x) : p ++ l.take (k + 1) = (p ++ l.take k) ++ [x] := by
  rw [List.take_add_one, h, List.append_assoc]
  rfl
def TwInv (n mb : Nat) (l : List TTx) (w1 : World) (vs vi : Value) (wr : World) : Prop :=
  ∃ k s : Nat, k ≤ n ∧ vi = .int .i64 k ∧ s = (insAll (l.take k)).length ∧ vs = .int .i64 s ∧ wr.ownsMap Tryz.prog 68 unitElem mb s (placesD (insAll (l.take k))) ∧ Below w1.heap.size w1 wr
def TwIn (n mb : Nat) (p l : List TIn) (w1 : World) (vi : Value) (wr : World) : Prop :=
  ∃ k : Nat, k ≤ n ∧ vi = .int .i64 k ∧ wr.ownsMap Tryz.prog 68 unitElem mb (p.length + k) (placesD (p ++ l.take k)) ∧ w1.grownBy wr (some mb)
set_option maxHeartbeats 2000000 in
set_option maxRecDepth 100000 in
theorem bltwice_any (l : List TTx) (v : Value) (w : World) (h1 : TxsAt w v l) (hs : ∀ t ∈ l, TxSmall t) (hl : l.length ≤ 1000) (b : Bool) (hb : b = twiceB (insAll l)) :
    Calls Tryz.prog 55 #[v] w fun e w' => e = .returned (.bool b) ∧ Below w.heap.size w w' := by
  have HBb := Lib.hid hb
  obtain ⟨sp, cap, rfl⟩ := h1.shape
  obtain ⟨n, hn⟩ : ∃ n, n = l.length := ⟨_, rfl⟩
  rw [← hn] at h1 ⊢
  have HT := Lib.hid h1
  have NN := Lib.hid hn
  have TS := Lib.hid hs
  have bn : n ≤ 1000 := by rw [hn]; exact hl
  have AL : Hid ((insAll l).length ≤ 1000000) := by show _ ≤ _; have := insAll_len l hs; omega
  clear hb h1 hn hs hl
  go_enter Tryz.func55, Tryz.ntmps55
  have hmm := @run_makeMap Tryz.prog
  obtain ⟨mb, hmb⟩ : ∃ mb, mb = w.heap.size := ⟨_, rfl⟩
  have MB : Hid (w.heap.size ≤ mb) := by show _ ≤ _; rw [hmb]; exact Nat.le_refl _
  have HOM : Hid ((w.alloc (.map #[] 0)).ownsMap Tryz.prog 68 unitElem mb 0 (placesD [])) := by rw [hmb]; exact World.ownsMap_made _ _ _ _
  have HBM : Hid (Below w.heap.size w (w.alloc (.map #[] 0))) := (Below.refl _ _).alloc (Nat.le_refl _) _
  go_wp2_with fail
  rw [← hmb]
  clear hmm hmb
  go_loopw [4, 12] (fun vs vi wr => TwInv n mb l w vs vi wr) (fun _ i _ => n - (intOf i).toNat)
  case atStart => exact ⟨0, 0, by omega, rfl, rfl, rfl, HOM.out, HBM.out⟩
  case round =>
    clear HOM HBM
    obtain ⟨k, s, hk, rfl, hs, rfl, HM, B⟩ := hrel
    have B := Lib.hid B
    have HM := Lib.hid HM
    have HSm := Lib.hid hs
    clear hs
    have B0 : Hid (Below w.heap.size w w) := Below.refl _ _
    by_cases hlt : k < n
    · skip
      obtain ⟨b, o, hs1, _, hg⟩ := HT.out.get (by omega)
      obtain ⟨t, hgt⟩ : ∃ t, l[k]? = some t := ⟨_, List.getElem?_eq_getElem (by have := NN.out; omega)⟩
      obtain ⟨iv, ov, hr, hta⟩ := hg k t hgt
      have LC : Hid ((txL t iv ov).length = 4) := rfl
      have LC' : Hid ((txL t iv ov).toArray.size = 4) := rfl
      have ONE : Hid ((txL t iv ov).toArray.all (·.oneCell') = true) := by
        obtain ⟨_, iv', ov', e, h1, h2⟩ := hta
        have e : txL t iv ov = txL t iv' ov' := by simpa using e
        rw [e]
        exact tx_one h1 h2
      obtain ⟨ct, hct⟩ : ∃ ct, ct = txL t iv ov := ⟨_, rfl⟩
      rw [← hct] at hr hta LC LC' ONE
      have R := Lib.hid (range_below (range_below hr B0.out) B.out)
      have TW := Lib.hid hta
      have TA : Hid (∀ W, Below wr.heap.size wr W → TxAt W (.agg ct.toArray) t) := fun W hW => ((hta.below B0.out).below B.out).below hW
      have GT := Lib.hid hgt
      have p0 : 0 ≤ (k : Int) := by omega
      have q0 : (k : Int) < (n : Int) := by omega
      subst hs1
      clear hg hgt hr hta hct
      obtain ⟨g5, hg5⟩ : ∃ g5, g5 = wr.heap.size := ⟨_, rfl⟩
      obtain ⟨_, f2, f3, f4⟩ := fill_setup (Below.refl wr.heap.size wr) [nV 0, .slice none 0 0, .slice none 0 0, nV 0].toArray ct.toArray 66
      go_upto_region 6 with ((with_reducible show wpList _ _ _ _ _ _); first | (refine wpList_load_mid rfl 66 (.tmp 14) rfl b (o + k * 4) rfl ct _ R.out Tryz.underlying66 rfl (by rw [LC.out]; kernel_rfl) ?_; go_frame) | (refine wpList_store_row rfl 66 (.tmp 6) (.tmp 15) rfl wr.heap.size ct.toArray rfl rfl 66 _ (heap_alloc_new _ _) (by rw [LC'.out]; kernel_rfl) (by rw [LC'.out]; rfl) ONE.out ?_; go_frame))
      rw [← hg5] at f2 f3 f4 ⊢
      generalize hw5 : World.setRow _ _ _ = w5
      have e5 : World.setRow (wr.alloc (.cells [nV 0, .slice none 0 0, .slice none 0 0, nV 0].toArray 66)) g5 ct.toArray = w5 := hw5
      rw [e5] at f2 f4
      rw [hg5] at f4
      have F5 := Lib.hid f2
      have N5 := Lib.hid f4
      have B5 := Lib.hid (B.out.trans (f4.mono B.out.size))
      have G5 := Lib.hid hg5
      clear f2 f3 f4 hg5 hw5 e5
      have HM5 := Lib.hid (HM.out.kept (grownBy_of_below N5.out none) (by simp))
      obtain ⟨_, iv2, ov2, hag, hi0, _⟩ := TW.out
      have hct2 : ct = txL t iv2 ov2 := by have := Value.agg.inj hag; have := congrArg Array.toList this; simpa using this
      obtain ⟨si, ci, rfl, hci, hi1⟩ := hi0
      obtain ⟨ni, hni⟩ : ∃ ni, ni = t.ins.length := ⟨_, rfl⟩
      rw [← hni] at hct2
      have FB := F5.out
      rw [hct2] at FB
      have C1 : Hid (∀ W, Below w5.heap.size w5 W → W.cell? ⟨g5, 1, none⟩ = some (.slice si ni ci)) := fun W hW => (tx_cells (row_below FB hW)).2.1
      have FB := Lib.hid FB
      have HI := Lib.hid hi1
      have MLT : Hid (mb < g5) := by show _ < _; rw [G5.out]; exact HM.out.lt
      have NI := Lib.hid hni
      have bni : ni ≤ 1000 := by rw [hni]; exact (TS.out t (List.mem_of_getElem? GT.out)).2.1
      have IOK : Hid (InsOk t.ins) := (TS.out t (List.mem_of_getElem? GT.out)).1.2.1
      have bs : s + ni ≤ 1000000 := by
        have h1 := AL.out
        have h2 : insAll l = insAll (l.take (k + 1)) ++ insAll (l.drop (k + 1)) := by unfold insAll; rw [← List.flatMap_append, List.take_append_drop]
        rw [h2, insAll_snoc GT.out] at h1
        simp only [List.length_append] at h1
        have := HSm.out
        have := NI.out
        omega
      have BS := Lib.hid bs
      clear hag hct2 hi1 hni hci HM TA bs ONE R LC LC'
      have c1 := C1.out w5 (Below.refl _ _)
      go_wp2_with fail
      clear c1
      obtain ⟨wo, rfl⟩ : ∃ wo : World, wo = wr := ⟨_, rfl⟩
      obtain ⟨p, hp⟩ : ∃ p, p = insAll (l.take k) := ⟨_, rfl⟩
      have HP := Lib.hid hp
      obtain rfl : s = p.length := by rw [hp]; exact HSm.out
      rw [← hp] at HM5
      clear hp HSm
      go_loopw [19] (fun vi wq => TwIn ni mb p t.ins w5 vi wq) (fun i _ => ni - (intOf i).toNat)
      case atStart => exact ⟨0, by omega, rfl, by simpa using HM5.out, grownBy_of_below (Below.refl _ _) _⟩
      case round =>
        clear HM5
        obtain ⟨j, hj, rfl, HQ, BQ⟩ := hrel
        have BQ := Lib.hid BQ
        have BW := Lib.hid (B5.out.grown BQ.out B5.out.size (fun q hq => by cases hq; exact MB.out))
        have HQ := Lib.hid HQ
        by_cases hlt2 : j < ni
        · have hkx : j < t.ins.length := by have := NI.out; omega
          obtain ⟨b1, o1, hs1, he1⟩ := HI.out (by omega)
          have g1 := he1 j _ (List.getElem?_eq_getElem hkx)
          obtain ⟨x, hx⟩ : ∃ x, x = t.ins[j] := ⟨_, rfl⟩
          rw [← hx] at g1
          have hgx : t.ins[j]? = some x := by rw [hx]; exact List.getElem?_eq_getElem _
          obtain ⟨hx1, kx, hkx2, hr1⟩ := g1
          obtain ⟨sx, cx, hkv⟩ := hkx2.2
          obtain ⟨kl, hkl⟩ : ∃ kl, kl = x.key.length := ⟨_, rfl⟩
          rw [← hkl] at hkv
          subst hkv
          have p0 : 0 ≤ (j : Int) := by omega
          have q0 : (j : Int) < (ni : Int) := by omega
          have R1 := Lib.hid (range_below hr1 BW.out)
          have GX := Lib.hid hgx
          have XOK := Lib.hid hx1
          have ONE := Lib.hid (in_one x (.slice sx kl cx) rfl)
          have LX : Hid ((inL x (.slice sx kl cx)).length = 35) := inL_length x _ hx1.1
          have LX' : Hid ((inL x (.slice sx kl cx)).toArray.size = 35) := by show _ = _; rw [List.size_toArray]; exact LX.out
          subst hs1
          clear hx hgx he1 hx1 hkx2 hr1 hkl hkx
          obtain ⟨g6, hg6⟩ : ∃ g6, g6 = wr.heap.size := ⟨_, rfl⟩
          obtain ⟨_, f2, f3, f4⟩ := fill_setup (Below.refl wr.heap.size wr) (List.replicate 32 (bV 0) ++ [nV 0, .slice none 0 0, nV 0]).toArray (inL x (.slice sx kl cx)).toArray 70
          go_upto_region 9 with ((with_reducible show wpList _ _ _ _ _ _); first | (refine wpList_load_mid rfl 70 (.tmp 21) rfl b1 (o1 + j * 35) rfl (inL x (.slice sx kl cx)) _ R1.out Tryz.underlying70 rfl (by rw [LX.out]; kernel_rfl) ?_; go_frame) | (refine wpList_store_row rfl 70 (.tmp 8) (.tmp 22) rfl wr.heap.size (inL x (.slice sx kl cx)).toArray rfl rfl 70 _ (heap_alloc_new _ _) (by rw [LX'.out]; kernel_rfl) (by rw [LX'.out]; rfl) ONE.out ?_; go_frame))
          rw [← hg6] at f2 f3 f4 ⊢
          generalize hw6 : World.setRow _ _ _ = w6
          have e6 : World.setRow (wr.alloc (.cells (List.replicate 32 (bV 0) ++ [nV 0, .slice none 0 0, nV 0]).toArray 70)) g6 (inL x (.slice sx kl cx)).toArray = w6 := hw6
          rw [e6] at f2 f4
          rw [hg6] at f4
          have F6 := Lib.hid f2
          have B6 := Lib.hid (grownBy_below' BQ.out f4)
          have HM6 := Lib.hid (HQ.out.kept (grownBy_of_below f4 none) (by simp))
          clear f2 f3 f4 hg6 hw6 e6 HQ
          have LP : Hid ((ptL x.h x.n).length = 33) := by show _ = _; simp [ptL, XOK.out.1]
          have RP := Lib.hid (in_pt (range_of_box F6.out))
          go_wp2_with ((with_reducible show wpList _ _ _ _ _ _); first | (refine wpList_load_mid rfl 68 (.tmp 24) rfl g6 0 rfl (ptL x.h x.n) _ RP.out Tryz.underlying68 rfl (by rw [LP.out]; kernel_rfl) ?_; go_frame) | (refine wpList_buildTo rfl 134 _ rfl _ rfl #[] (by kernel_rfl) ?_; go_frame) | (refine wpList_mapUpdate_own _ rfl _ _ _ 133 rfl 68 134 pt_law Tryz.underlying133 _ mb (p.length + j) _ rfl HM6.out (by have := BS.out; unfold maxLen; omega) _ _ (ptLit x) rfl rfl (pt_key x XOK.out) (.agg []) [] unitElem_mk ?_; intro w7 ho7 hg7; have H7 := Lib.hid ho7; have G7 := Lib.hid hg7; clear ho7 hg7; go_frame))
          go_roundw
          case rel =>
            refine ⟨j + 1, by omega, by go_num, ?_, grownBy_trans B6.out G7.out⟩
            rw [app_take p GX.out, placesD_push]
            exact H7.out
          case measure => simp [intOf]; omega
        · have hjn : j = ni := by omega
          have hge : ¬ (j : Int) < (ni : Int) := by omega
          have c1 : wr.cell? ⟨g5, 1, none⟩ = some (.slice si ni ci) := (tx_cells (row_far FB.out BQ.out (by have := MLT.out; intro h; cases h; omega))).2.1
          have u1 : IntKind.i64.wrap ((p.length : Int) + (ni : Int)) = (p.length : Int) + (ni : Int) := i64_stays (by have := BS.out; omega)
          go_wp2_with fail
          go_roundw
          case rel =>
            have e : insAll (l.take (k + 1)) = p ++ t.ins := by rw [insAll_snoc GT.out, HP.out]
            refine ⟨k + 1, p.length + ni, by omega, by go_num, by rw [e, List.length_append, NI.out], by go_num, ?_, BW.out⟩
            have h := HQ.out
            rw [hjn, NI.out, List.take_length] at h
            rw [e, NI.out]
            exact h
          case measure => simp [intOf]; omega
    · have hkn : k = n := by omega
      have hge : ¬ (k : Int) < (n : Int) := by omega
      have h := HM.out
      rw [hkn, NN.out, List.take_length] at h
      have HM2 := Lib.hid h
      have hs2 := HSm.out
      rw [hkn, NN.out, List.take_length] at hs2
      have SS := Lib.hid hs2
      clear h hs2 HM
      obtain ⟨D, hD⟩ : ∃ D, D = placesD (insAll l) := ⟨_, rfl⟩
      rw [← hD] at HM2
      obtain ⟨sz, hsz⟩ : ∃ sz, sz = Maps.size D := ⟨_, rfl⟩
      have HR : Hid (decide (sz < s) = b) := by
        show _ = _
        rw [HBb.out, ← (twice_keys (insAll l) (insAll_ok l TS.out)).2, hsz, hD, placesD_size, SS.out]
      have SZ := Lib.hid hsz
      clear hkn hD hsz SS
      by_cases hb2 : sz < s
      · have e1 : (sz : Int) < (s : Int) := by omega
        obtain rfl : true = b := by rw [← HR.out, decide_eq_true hb2]
        clear hb2
        go_wp2_with (at_len; refine wpList_len_own _ rfl _ 133 rfl 68 134 Tryz.underlying133 _ mb s D rfl HM2.out ?_; rw [← SZ.out]; go_frame)
        go_ret
        exact ⟨rfl, B.out⟩
      · have e1 : ¬ (sz : Int) < (s : Int) := by omega
        obtain rfl : false = b := by rw [← HR.out, decide_eq_false hb2]
        clear hb2
        go_wp2_with (at_len; refine wpList_len_own _ rfl _ 133 rfl 68 134 Tryz.underlying133 _ mb s D rfl HM2.out ?_; rw [← SZ.out]; go_frame)
        go_ret
        exact ⟨rfl, B.out⟩
end Go.Proofs.YtdamhoagiooicaaGreatDoor.Sha

/-
  A store into a header's box turns just that part. Conditions: digests of 32 bytes.
-/
namespace Go.Proofs.YtdamhoagiooicaaGreatDoor.Sha
open Go Go.RowKit
/-- The header of zeros. -/
def hdZ : THd := ⟨0, List.replicate 32 0, List.replicate 32 0, 0, 0, 0⟩
theorem hdZ_ok : HdOk hdZ := ⟨by simp [hdZ], by simp [hdZ], by simp [hdZ], by simp [hdZ], by simp [hdZ], by simp [hdZ]⟩
theorem hd_zero : Tryz.zeroCells26 = (hdL hdZ).toArray := by kernel_rfl
theorem nV_ones (n : Nat) : ∀ u ∈ [nV n], u.oneCell' = true := by
  intro u hu
  simp only [List.mem_cons, List.not_mem_nil, or_false] at hu
  subst hu
  rfl
theorem HdBox.far {w w' : World} {g q : Nat} {h : THd} (k : HdBox w g h) (hg : w.grownBy w' (some q)) (hq : q ≠ g) : HdBox w' g h := ⟨row_far k.row hg (fun e => hq (Option.some.inj e))⟩
section
variable {ops : Array Oper} {rest : List Oper} {op : Oper} {a : Act} {w : World} {Q : Exit → Act → World → Prop} {g : Nat} {h : THd}
theorem st_ver (hgd : op.guard = none) (x y : Operand) (ho : op.op = .store 22 x y) (hx : a.eval x = .pointer (some ⟨g, 0, none⟩)) (n : Nat) (hy : a.eval y = nV n) (hh : HdOk h) (k : HdBox w g h)
    (hK : ∀ w', HdBox w' g { h with ver := n } → w.grownBy w' (some g) → wpList Tryz.prog ops Q rest (a.put op.dst undef) w') : wpList Tryz.prog ops Q (op :: rest) a w := by
  refine wpList_store_part hgd 22 x y ho g 0 [] [nV h.ver] (h.prev.map bV ++ (h.root.map bV ++ [nV h.time, nV h.work, nV h.nonce])) [nV n] 26 (nV n) hx hy rfl (by simp [hh.2.1, hh.2.2.1]) (by simp) (by rw [k.row]; simp [hdL]) (by kernel_rfl) (nV_ones n) ?_
  intro w' q1 q2
  exact hK w' ⟨by rw [q1]; simp [hdL]⟩ q2
theorem st_prev (hgd : op.guard = none) (x y : Operand) (ho : op.op = .store 24 x y) (hx : a.eval x = .pointer (some ⟨g, 1, none⟩)) (p : List UInt8) (hp : p.length = 32) (hy : a.eval y = .agg (p.map bV).toArray) (hh : HdOk h) (k : HdBox w g h)
    (hK : ∀ w', HdBox w' g { h with prev := p } → w.grownBy w' (some g) → wpList Tryz.prog ops Q rest (a.put op.dst undef) w') : wpList Tryz.prog ops Q (op :: rest) a w := by
  refine wpList_store_part hgd 24 x y ho g 1 [nV h.ver] (h.prev.map bV) (h.root.map bV ++ [nV h.time, nV h.work, nV h.nonce]) (p.map bV) 26 (.agg (p.map bV).toArray) hx hy rfl (by simp [hh.2.1, hh.2.2.1]) (by simp [hp, hh.2.1, hh.2.2.1]) (by rw [k.row]; simp [hdL]) (by rw [List.length_map, hp]; kernel_rfl) (bV_one' p) ?_
  intro w' q1 q2
  exact hK w' ⟨by rw [q1]; simp [hdL]⟩ q2
theorem st_root (hgd : op.guard = none) (x y : Operand) (ho : op.op = .store 24 x y) (hx : a.eval x = .pointer (some ⟨g, 33, none⟩)) (p : List UInt8) (hp : p.length = 32) (hy : a.eval y = .agg (p.map bV).toArray) (hh : HdOk h) (k : HdBox w g h)
    (hK : ∀ w', HdBox w' g { h with root := p } → w.grownBy w' (some g) → wpList Tryz.prog ops Q rest (a.put op.dst undef) w') : wpList Tryz.prog ops Q (op :: rest) a w := by
  refine wpList_store_part hgd 24 x y ho g 33 (nV h.ver :: h.prev.map bV) (h.root.map bV) [nV h.time, nV h.work, nV h.nonce] (p.map bV) 26 (.agg (p.map bV).toArray) hx hy rfl (by simp [hh.2.1, hh.2.2.1]) (by simp [hp, hh.2.1, hh.2.2.1]) (by rw [k.row]; simp [hdL]) (by rw [List.length_map, hp]; kernel_rfl) (bV_one' p) ?_
  intro w' q1 q2
  exact hK w' ⟨by rw [q1]; simp [hdL]⟩ q2
theorem st_time (hgd : op.guard = none) (x y : Operand) (ho : op.op = .store 22 x y) (hx : a.eval x = .pointer (some ⟨g, 65, none⟩)) (n : Nat) (hy : a.eval y = nV n) (hh : HdOk h) (k : HdBox w g h)
    (hK : ∀ w', HdBox w' g { h with time := n } → w.grownBy w' (some g) → wpList Tryz.prog ops Q rest (a.put op.dst undef) w') : wpList Tryz.prog ops Q (op :: rest) a w := by
  refine wpList_store_part hgd 22 x y ho g 65 (nV h.ver :: (h.prev.map bV ++ h.root.map bV)) [nV h.time] [nV h.work, nV h.nonce] [nV n] 26 (nV n) hx hy rfl (by simp [hh.2.1, hh.2.2.1]) (by simp) (by rw [k.row]; simp [hdL]) (by kernel_rfl) (nV_ones n) ?_
  intro w' q1 q2
  exact hK w' ⟨by rw [q1]; simp [hdL]⟩ q2
theorem st_work (hgd : op.guard = none) (x y : Operand) (ho : op.op = .store 22 x y) (hx : a.eval x = .pointer (some ⟨g, 66, none⟩)) (n : Nat) (hy : a.eval y = nV n) (hh : HdOk h) (k : HdBox w g h)
    (hK : ∀ w', HdBox w' g { h with work := n } → w.grownBy w' (some g) → wpList Tryz.prog ops Q rest (a.put op.dst undef) w') : wpList Tryz.prog ops Q (op :: rest) a w := by
  refine wpList_store_part hgd 22 x y ho g 66 (nV h.ver :: (h.prev.map bV ++ (h.root.map bV ++ [nV h.time]))) [nV h.work] [nV h.nonce] [nV n] 26 (nV n) hx hy rfl (by simp [hh.2.1, hh.2.2.1]) (by simp) (by rw [k.row]; simp [hdL]) (by kernel_rfl) (nV_ones n) ?_
  intro w' q1 q2
  exact hK w' ⟨by rw [q1]; simp [hdL]⟩ q2
theorem st_nonce (hgd : op.guard = none) (x y : Operand) (ho : op.op = .store 22 x y) (hx : a.eval x = .pointer (some ⟨g, 67, none⟩)) (n : Nat) (hy : a.eval y = nV n) (hh : HdOk h) (k : HdBox w g h)
    (hK : ∀ w', HdBox w' g { h with nonce := n } → w.grownBy w' (some g) → wpList Tryz.prog ops Q rest (a.put op.dst undef) w') : wpList Tryz.prog ops Q (op :: rest) a w := by
  refine wpList_store_part hgd 22 x y ho g 67 (nV h.ver :: (h.prev.map bV ++ (h.root.map bV ++ [nV h.time, nV h.work]))) [nV h.nonce] [] [nV n] 26 (nV n) hx hy rfl (by simp [hh.2.1, hh.2.2.1]) (by simp) (by rw [k.row]; simp [hdL]) (by kernel_rfl) (nV_ones n) ?_
  intro w' q1 q2
  exact hK w' ⟨by rw [q1]; simp [hdL]⟩ q2
end
end Go.Proofs.YtdamhoagiooicaaGreatDoor.Sha

/-
  Package head checks a header's work; a header's digest; the statements' first. Nothing that was there turns. Conditions: those that each states.
-/
namespace Go.Proofs.YtdamhoagiooicaaGreatDoor.Sha
open Go Go.RowKit
/-- Is the work out of its range? -/
def workB (n : Nat) : Bool := decide (n = 0) || decide (16777216 < n)
set_option maxRecDepth 100000 in
theorem check_hd (h : THd) (hh : HdOk h) (w : World) (x : Addr) (hx : w.cell? ⟨5, 0, none⟩ = some (.iface 176 (.pointer (some x)))) (v : Value) (hv : v = if workB h.work then .iface 176 (.pointer (some x)) else .nilIface) :
    Calls Tryz.prog 53 #[.agg (hdL h).toArray] w fun e w' => e = .returned v ∧ Below w.heap.size w w' := by
  have HH := Lib.hid hh
  have HX := Lib.hid hx
  have HV := Lib.hid hv
  obtain ⟨cs, hcs⟩ : ∃ cs, cs = hdL h := ⟨_, rfl⟩
  rw [← hcs]
  have CS := Lib.hid hcs
  clear hcs hh hx hv
  go_enter Tryz.func53, Tryz.ntmps53
  go_upto_region 1 with fail
  rw [CS.out]
  obtain ⟨B, F⟩ := hd_box w h
  generalize hw1 : World.alloc w _ = w1
  rw [hw1] at B F
  have gx : w1.cell? ⟨5, 0, none⟩ = some (.iface 176 (.pointer (some x))) := by
    rw [B.cell (World.block_lt_of_cell? w _ HX.out)]
    exact HX.out
  have c66 := (F.cells HH.out).2.2.1
  obtain ⟨n, hn⟩ : ∃ n, n = h.work := ⟨_, rfl⟩
  rw [← hn] at c66
  have B := Lib.hid B
  have hv := HV.out
  rw [← hn] at hv
  clear F hw1 hn CS HV
  unfold workB at hv
  by_cases h1 : n = 0
  · subst h1
    obtain rfl : v = .iface 176 (.pointer (some x)) := hv
    go_wp2_with fail
    go_ret
    exact ⟨rfl, B.out⟩
  have t1 : ((n : Int) == 0) = false := by rw [beq_eq_false_iff_ne]; omega
  by_cases h2 : 16777216 < n
  · have t2 : (16777216 : Int) < (n : Int) := by omega
    obtain rfl : v = .iface 176 (.pointer (some x)) := by rw [hv, decide_eq_false h1, decide_eq_true h2]; rfl
    clear h1 h2 hv
    go_wp2_with fail
    go_ret
    exact ⟨rfl, B.out⟩
  · have t2 : ¬ (16777216 : Int) < (n : Int) := by omega
    obtain rfl : v = .nilIface := by rw [hv, decide_eq_false h1, decide_eq_false h2]; rfl
    clear h1 h2 hv
    go_wp2_with fail
    go_ret
    exact ⟨rfl, B.out⟩
end Go.Proofs.YtdamhoagiooicaaGreatDoor.Sha

/-
  What is amiss with a block, and where: as plain data, and as the program's error. No conditions.
-/
namespace Go.Proofs.YtdamhoagiooicaaGreatDoor.Sha
open Go Go.RowKit
/-- An error with a place around it, or none around it: the value. r: the error's number (its place in the document's order; 0: none), the place. -/
def FltV (w : World) (E : Nat → Addr) (v : Value) (r : Nat × Option Nat) : Prop :=
  (r.2 = none ∧ v = errV E r.1) ∨ ∃ q p g, r = (q + 1, some p) ∧ v = .iface 126 (.pointer (some ⟨g, 0, none⟩)) ∧ w.heap[g]? = some (.cells #[.int .i64 (p : Int), errV E (q + 1)] 130 (0, 0))
theorem FltV.below {w w' : World} {E : Nat → Addr} {v : Value} {r : Nat × Option Nat} (h : FltV w E v r) (hb : Below w.heap.size w w') : FltV w' E v r := by
  rcases h with h | ⟨q, p, g, h1, h2, h3⟩
  · exact .inl h
  · exact .inr ⟨q, p, g, h1, h2, row_below h3 hb⟩
/-- The first that may not be by itself. -/
def chkAt : Nat → List TTx → Option (Nat × Nat)
  | _, [] => none
  | i, t :: l => if checkC t = 0 then chkAt (i + 1) l else some (i, checkC t)
/-- The first that may not be where it stands. -/
def basAt : Nat → List TTx → Option Nat
  | _, [] => none
  | i, t :: l => if baseB t = decide (i = 0) then basAt (i + 1) l else some i
theorem chkAt_none : ∀ (l : List TTx) (i : Nat), (∀ (j : Nat) (t : TTx), l[j]? = some t → checkC t = 0) → chkAt i l = none
  | [], _, _ => rfl
  | t :: l, i, h => by
    unfold chkAt
    rw [if_pos (h 0 t rfl)]
    exact chkAt_none l (i + 1) (fun j u hu => h (j + 1) u hu)
theorem chkAt_some : ∀ (l : List TTx) (i k : Nat) (t : TTx), (∀ (j : Nat) (u : TTx), j < k → l[j]? = some u → checkC u = 0) → l[k]? = some t → checkC t ≠ 0 → chkAt i l = some (i + k, checkC t)
  | u :: l, i, 0, t, _, h, hc => by
    simp only [List.getElem?_cons_zero, Option.some.injEq] at h
    subst h
    unfold chkAt
    rw [if_neg hc]
    rfl
  | u :: l, i, k + 1, t, h0, h, hc => by
    unfold chkAt
    rw [if_pos (h0 0 u (by omega) rfl), chkAt_some l (i + 1) k t (fun j v hj hv => h0 (j + 1) v (by omega) hv) h hc, show i + 1 + k = i + (k + 1) by omega]
theorem basAt_none : ∀ (l : List TTx) (i : Nat), (∀ (j : Nat) (t : TTx), l[j]? = some t → baseB t = decide (i + j = 0)) → basAt i l = none
  | [], _, _ => rfl
  | t :: l, i, h => by
    unfold basAt
    rw [if_pos (show baseB t = decide (i = 0) from h 0 t rfl)]
    exact basAt_none l (i + 1) (fun j u hu => by rw [h (j + 1) u hu, show i + (j + 1) = i + 1 + j by omega])
theorem basAt_some : ∀ (l : List TTx) (i k : Nat) (t : TTx), (∀ (j : Nat) (u : TTx), j < k → l[j]? = some u → baseB u = decide (i + j = 0)) → l[k]? = some t → baseB t ≠ decide (i + k = 0) → basAt i l = some (i + k)
  | u :: l, i, 0, t, _, h, hc => by
    simp only [List.getElem?_cons_zero, Option.some.injEq] at h
    subst h
    unfold basAt
    rw [if_neg (show ¬ baseB u = decide (i = 0) from hc)]
    rfl
  | u :: l, i, k + 1, t, h0, h, hc => by
    unfold basAt
    rw [if_pos (show baseB u = decide (i = 0) from h0 0 u (by omega) rfl), basAt_some l (i + 1) k t (fun j v hj hv => by rw [h0 (j + 1) v (by omega) hv, show i + (j + 1) = i + 1 + j by omega]) h (by rw [show i + 1 + k = i + (k + 1) by omega]; exact hc), show i + 1 + k = i + (k + 1) by omega]
/-- What is amiss with one of them, and where. -/
def eachR (l : List TTx) : Nat × Option Nat := match chkAt 0 l with
  | some (p, c) => (c, some p)
  | none => match basAt 0 l with
    | some p => (7, some p)
    | none => (0, none)
theorem eachR_chk {l : List TTx} {k : Nat} {t : TTx} (h : ∀ (j : Nat) (u : TTx), j < k → l[j]? = some u → checkC u = 0) (ht : l[k]? = some t) (hc : checkC t ≠ 0) : eachR l = (checkC t, some k) := by
  unfold eachR
  rw [chkAt_some l 0 k t h ht hc, Nat.zero_add]
theorem eachR_bas {l : List TTx} {k : Nat} {t : TTx} (h0 : ∀ (j : Nat) (u : TTx), l[j]? = some u → checkC u = 0) (h : ∀ (j : Nat) (u : TTx), j < k → l[j]? = some u → baseB u = decide (j = 0)) (ht : l[k]? = some t) (hc : baseB t ≠ decide (k = 0)) : eachR l = (7, some k) := by
  unfold eachR
  rw [chkAt_none l 0 h0, basAt_some l 0 k t (fun j u hj hu => by rw [Nat.zero_add]; exact h j u hj hu) ht (by rw [Nat.zero_add]; exact hc), Nat.zero_add]
theorem eachR_fine {l : List TTx} (h0 : ∀ (j : Nat) (u : TTx), l[j]? = some u → checkC u = 0) (h : ∀ (j : Nat) (u : TTx), l[j]? = some u → baseB u = decide (j = 0)) : eachR l = (0, none) := by
  unfold eachR
  rw [chkAt_none l 0 h0, basAt_none l 0 (fun j u hu => by rw [Nat.zero_add]; exact h j u hu)]
/-- What is amiss with a block, and where. -/
def blkR (x : TBlk) : Nat × Option Nat :=
  if workB x.head.work = true then (22, none) else if x.txs.length = 0 ∨ 200 < x.txs.length then (4, none) else if 20000 < (blkB x).length then (3, none)
  else if (eachR x.txs).1 ≠ 0 then eachR x.txs else if twiceB (insAll x.txs) = true then (6, none) else if blRoot x = x.head.root then (0, none) else (8, none)
end Go.Proofs.YtdamhoagiooicaaGreatDoor.Sha

/-
  What a block's checks say nothing of can be read again; the value of a fault. No conditions beyond those that each states.
-/
namespace Go.Proofs.YtdamhoagiooicaaGreatDoor.Sha
open Go Go.RowKit
theorem chkAt_ne : ∀ (l : List TTx) (i p c : Nat), chkAt i l = some (p, c) → c ≠ 0
  | [], _, _, _, h => by simp [chkAt] at h
  | t :: l, i, p, c, h => by
    unfold chkAt at h
    split at h
    · exact chkAt_ne l (i + 1) p c h
    · rename_i hc
      simp only [Option.some.injEq, Prod.mk.injEq] at h
      rw [← h.2]
      exact hc
theorem chkAt_all : ∀ (l : List TTx) (i : Nat), chkAt i l = none → ∀ t ∈ l, checkC t = 0
  | [], _, _, t, ht => absurd ht (by simp)
  | u :: l, i, h, t, ht => by
    unfold chkAt at h
    split at h
    · rename_i hc
      rcases List.mem_cons.1 ht with rfl | ht
      · exact hc
      · exact chkAt_all l (i + 1) h t ht
    · simp at h
theorem eachR_all {l : List TTx} (h : (eachR l).1 = 0) : ∀ t ∈ l, checkC t = 0 := by
  unfold eachR at h
  split at h
  · rename_i p c hc
    exact absurd h (chkAt_ne _ _ _ _ hc)
  · rename_i hn
    exact chkAt_all l 0 hn
theorem blkR_read {x : TBlk} (hh : HdOk x.head) (hs : BlkSmall x) (h : blkR x = (0, none)) : BlkRead x := by
  unfold blkR at h
  split at h
  · simp at h
  split at h
  · simp at h
  rename_i h1
  split at h
  · simp at h
  split at h
  · rename_i h2
    exact absurd (congrArg Prod.fst h) h2
  rename_i h2
  have h3 := eachR_all (Decidable.not_not.1 h2)
  exact ⟨hh, fun t ht => read_fine (hs.1 t ht).fit (fine_check (h3 t ht)), by omega⟩
theorem BlkRead.small {x : TBlk} (h : BlkRead x) : BlkSmall x := ⟨fun t ht => (h.2.1 t ht).small, Nat.le_trans h.2.2 (by omega)⟩
theorem blkB_81 {x : TBlk} (hh : HdOk x.head) : 81 ≤ (blkB x).length := by
  have h := lenN_bd x.txs.length
  rw [blkB_len hh]
  omega
/-- None, or one of two kinds of values. -/
theorem flt_cases {w : World} {E : Nat → Addr} {u : Value} {r : Nat × Option Nat} (h : FltV w E u r) : (r = (0, none) ∧ u = .nilIface) ∨ (∃ q, u = .iface 176 (.pointer (some (E q)))) ∨ ∃ g, u = .iface 126 (.pointer (some ⟨g, 0, none⟩)) := by
  rcases h with ⟨h1, h2⟩ | ⟨q, p, g, h1, h2, _⟩
  · obtain ⟨a, b⟩ := r
    simp only at h1 h2
    subst h1
    cases a with
    | zero => exact .inl ⟨rfl, h2⟩
    | succ q => exact .inr (.inl ⟨q, h2⟩)
  · exact .inr (.inr ⟨g, h2⟩)
theorem blk_parts {w : World} {v : Value} {x : TBlk} (h : BlkAt w v x) : ∃ cs : List Value, v = .agg cs.toArray ∧ cs.toArray.size = 69 ∧ cs.toArray.all (·.oneCell') = true := by
  obtain ⟨hh, tv, hv, ht⟩ := h
  exact ⟨_, hv, blL_size hh _, blL_one ht.one⟩
theorem samebl_self {x : TBlk} : true = true ↔ x = x := by simp
end Go.Proofs.YtdamhoagiooicaaGreatDoor.Sha

/-
  Stores into one part of a block's box; the zero block; one transaction in a row. No conditions beyond those that each states.
-/
namespace Go.Proofs.YtdamhoagiooicaaGreatDoor.Sha
open Go Go.RowKit
theorem bl_zero : Tryz.zeroCells29 = (blL hdZ (.slice none 0 0)).toArray := by kernel_rfl
theorem info_txc : (Tryz.prog.info? 66).map (fun i => (i.zero, i.size, i.bytes)) = some (some (.agg [nV 0, .slice none 0 0, .slice none 0 0, nV 0].toArray), 4, 64) := by kernel_rfl
section
variable {ops : Array Oper} {rest : List Oper} {op : Oper} {a : Act} {w : World} {Q : Exit → Act → World → Prop} {g : Nat} {h : THd} {tv : Value}
theorem st_blroot (hgd : op.guard = none) (x y : Operand) (ho : op.op = .store 24 x y) (hx : a.eval x = .pointer (some ⟨g, 33, none⟩)) (p : List UInt8) (hp : p.length = 32) (hy : a.eval y = .agg (p.map bV).toArray) (hh : HdOk h) (k : BlBox w g h tv)
    (hK : ∀ w', BlBox w' g { h with root := p } tv → w.grownBy w' (some g) → wpList Tryz.prog ops Q rest (a.put op.dst undef) w') : wpList Tryz.prog ops Q (op :: rest) a w := by
  refine wpList_store_part hgd 24 x y ho g 33 (nV h.ver :: h.prev.map bV) (h.root.map bV) [nV h.time, nV h.work, nV h.nonce, tv] (p.map bV) 29 (.agg (p.map bV).toArray) hx hy rfl (by simp [hh.2.1]) (by simp [hp, hh.2.2.1]) (by rw [k.row]; simp [blL, hdL]) (by rw [List.length_map, hp]; kernel_rfl) (bV_one' p) ?_
  intro w' q1 q2
  exact hK w' ⟨by rw [q1]; simp [blL, hdL]⟩ q2
theorem st_bltxs (hgd : op.guard = none) (x y : Operand) (ho : op.op = .store 27 x y) (hx : a.eval x = .pointer (some ⟨g, 68, none⟩)) (u : Value) (hy : a.eval y = u) (h1 : u.oneCell' = true) (hh : HdOk h) (k : BlBox w g h tv)
    (hK : ∀ w', BlBox w' g h u → w.grownBy w' (some g) → wpList Tryz.prog ops Q rest (a.put op.dst undef) w') : wpList Tryz.prog ops Q (op :: rest) a w := by
  refine wpList_store_part hgd 27 x y ho g 68 (hdL h) [tv] [] [u] 29 u hx hy (cells_one h1) (hdL_length hh) rfl (by rw [k.row]; simp [blL]) (by kernel_rfl) (by intro v hv; rw [List.mem_singleton] at hv; rw [hv]; exact h1) ?_
  intro w' q1 q2
  exact hK w' ⟨by rw [q1]; simp [blL]⟩ q2
end
theorem BlBox.far {w w' : World} {g : Nat} {h : THd} {tv : Value} {q : Option Nat} (k : BlBox w g h tv) (hg : w.grownBy w' q) (hq : q ≠ some g) : BlBox w' g h tv := ⟨row_far k.row hg hq⟩
/-- A row of one. -/
theorem txsAt_one {w : World} {g : Nat} {t : TTx} {iv ov : Value} {fr : Nat × Nat} (h : w.heap[g]? = some (.cells (txL t iv ov).toArray 66 fr)) (ht : TxAt w (.agg (txL t iv ov).toArray) t) : TxsAt w (.slice (some ⟨g, 0, none⟩) 1 1) [t] := by
  obtain ⟨h0, iv', ov', e, h1, h2⟩ := ht
  have e : txL t iv ov = txL t iv' ov' := by simpa using e
  refine ⟨_, _, rfl, Nat.le_refl _, fun _ => ⟨g, 0, rfl, fun i u hu => ?_⟩⟩
  obtain ⟨rfl, rfl⟩ : i = 0 ∧ t = u := by
    cases i with
    | zero => exact ⟨rfl, by simpa using hu⟩
    | succ i => simp at hu
  refine ⟨h0, iv', ov', fun j v hj => ?_, h1, h2⟩
  rw [cell_of_row _ _ _ _ _ _ h, List.getElem?_toArray, e]
  simpa using hj
end Go.Proofs.YtdamhoagiooicaaGreatDoor.Sha

/-
  Rows of transactions of one's own: each element's inputs and outputs stand on blocks of an interval of its own. No conditions.
-/
namespace Go.Proofs.YtdamhoagiooicaaGreatDoor.Sha
open Go Go.RowKit
/-- An element: the transaction, its two slices, the interval of blocks that these stand on. -/
structure ETx where
  t : TTx
  iv : Value
  ov : Value
  lo : Nat
  hi : Nat
def ETx.cells (e : ETx) : List Value := txL e.t e.iv e.ov
def esL (es : List ETx) : List Value := es.flatMap ETx.cells
theorem esL_snoc (es : List ETx) (e : ETx) : esL (es ++ [e]) = esL es ++ e.cells := by simp [esL]
theorem esL_length : ∀ es : List ETx, (esL es).length = es.length * 4
  | [] => rfl
  | e :: es => by
    have ih := esL_length es
    show (e.cells ++ esL es).length = _
    rw [List.length_append, ih, List.length_cons]
    show 4 + _ = _
    omega
theorem esL_get : ∀ (es : List ETx) (i : Nat) (e : ETx), es[i]? = some e → ∀ j, j < 4 → (esL es)[i * 4 + j]? = e.cells[j]?
  | z :: es, 0, e, h, j, hj => by
    simp only [List.getElem?_cons_zero, Option.some.injEq] at h
    subst h
    show (z.cells ++ esL es)[0 * 4 + j]? = _
    rw [Nat.zero_mul, Nat.zero_add, List.getElem?_append_left (show j < z.cells.length from hj)]
  | z :: es, i + 1, e, h, j, hj => by
    rw [List.getElem?_cons_succ] at h
    show (z.cells ++ esL es)[(i + 1) * 4 + j]? = _
    rw [List.getElem?_append_right (show z.cells.length ≤ _ by show 4 ≤ _; omega), show (i + 1) * 4 + j - z.cells.length = i * 4 + j by show _ - 4 = _; omega]
    exact esL_get es i e h j hj
theorem esL_set : ∀ (es : List ETx) (i j : Nat) (e e' : ETx) (u : Value), es[i]? = some e → j < 4 → e'.cells = e.cells.set j u → (esL es).set (i * 4 + j) u = esL (es.set i e')
  | z :: es, 0, j, e, e', u, h, hj, hc => by
    simp only [List.getElem?_cons_zero, Option.some.injEq] at h
    subst h
    show (z.cells ++ esL es).set (0 * 4 + j) u = e'.cells ++ esL es
    rw [Nat.zero_mul, Nat.zero_add, List.set_append_left (h := show j < z.cells.length from hj), hc]
  | z :: es, i + 1, j, e, e', u, h, hj, hc => by
    rw [List.getElem?_cons_succ] at h
    show (z.cells ++ esL es).set ((i + 1) * 4 + j) u = z.cells ++ esL (es.set i e')
    rw [List.set_append_right (h := show z.cells.length ≤ _ by show 4 ≤ _; omega), show (i + 1) * 4 + j - z.cells.length = i * 4 + j by show _ - 4 = _; omega, esL_set es i j e e' u h hj hc]
/-- An own row whose elements read so is a row of transactions. -/
theorem TxsAt.of_own {w : World} {base : Nat} {v : Value} {es : List ETx} (h : w.ownsRow base 66 4 v es.length (esL es)) (ho : ∀ e ∈ es, TxOk e.t ∧ InsAt w e.iv e.t.ins ∧ OutsAt w e.ov e.t.outs) : TxsAt w v (es.map (·.t)) := by
  rcases h.2 with ⟨rfl, hn⟩ | ⟨g, cap, cur, rfl, _, hg, hc, _, hs, hx⟩
  · obtain rfl : es = [] := List.eq_nil_of_length_eq_zero hn
    exact TxsAt.nil _ _ _
  · refine ⟨_, _, by rw [List.length_map], by rw [List.length_map]; exact hc, fun _ => ⟨g, 0, rfl, fun i t ht => ?_⟩⟩
    rw [List.getElem?_map] at ht
    obtain ⟨e, he, rfl⟩ := Option.map_eq_some_iff.1 ht
    obtain ⟨h1, h2, h3⟩ := ho e (List.mem_of_getElem? he)
    refine ⟨h1, e.iv, e.ov, fun j u hj => ?_, h2, h3⟩
    have hj4 : j < 4 := (List.getElem?_eq_some_iff.1 hj).1
    have hi : i < es.length := (List.getElem?_eq_some_iff.1 he).1
    rw [Nat.zero_add, cell_of_row _ _ _ _ _ _ hg, ← Array.getElem?_toList]
    have e1 := esL_get es i e he j hj4
    rw [← hx, List.getElem?_take_of_lt (by omega)] at e1
    rw [e1]
    exact hj
/-- The row's shape, its block. -/
theorem own_blk {w : World} {base n size : Nat} {e : TypeId} {v : Value} {xs : List Value} (h : w.ownsRow base e size v n xs) (h0 : 0 < n) : ∃ g cap, v = .slice (some ⟨g, 0, none⟩) n cap ∧ base ≤ g ∧ g < w.heap.size ∧ n ≤ cap := by
  rcases h.2 with ⟨_, hn⟩ | ⟨g, cap, cur, rfl, hb, hg, hc, _⟩
  · omega
  · exact ⟨g, cap, rfl, hb, (Array.getElem?_eq_some_iff.1 hg).1, hc⟩
theorem own_range {w : World} {base n g cap size : Nat} {e : TypeId} {xs : List Value} (h : w.ownsRow base e size (.slice (some ⟨g, 0, none⟩) n cap) n xs) : w.rangeAt g 0 xs := by
  rcases h.2 with ⟨hv, _⟩ | ⟨g', cap', cur, hv, _, hg, _, _, _, hx⟩
  · cases hv
  · cases hv
    intro j u hj
    rw [Nat.zero_add, cell_of_row _ _ _ _ _ _ hg, ← Array.getElem?_toList]
    rw [← hx] at hj
    have := (List.getElem?_eq_some_iff.1 hj).1
    rw [List.getElem?_take_of_lt (by rw [List.length_take] at this; omega)] at hj
    exact hj
structure RowT (P : ETx → World → Prop) (base : Nat) (w : World) (v : Value) (es : List ETx) : Prop where
  own : w.ownsRow base 66 4 v es.length (esL es)
  ok : ∀ e ∈ es, TxOk e.t ∧ e.hi ≤ w.heap.size ∧ Sty (fun k => e.lo ≤ k ∧ k < e.hi) w (P e)
  apart : es.Pairwise (fun a b => a.hi ≤ b.lo)
  out : ∀ q, v.ownBlock = some q → ∀ e ∈ es, q < e.lo ∨ e.hi ≤ q
section
variable {P : ETx → World → Prop} {base : Nat} {w w' : World} {v v' : Value} {es : List ETx}
theorem RowT.nil : RowT P base w (.slice none 0 0) [] := ⟨World.ownsRow_nil _ _ _ _, fun e he => absurd he (by simp), List.Pairwise.nil, fun q hq => by simp [Value.ownBlock] at hq⟩
theorem RowT.at (h : RowT P base w v es) (hP : ∀ e W, P e W → InsAt W e.iv e.t.ins ∧ OutsAt W e.ov e.t.outs) : TxsAt w v (es.map (·.t)) :=
  TxsAt.of_own h.own fun e he => ⟨(h.ok e he).1, hP e w (h.ok e he).2.2.now⟩
theorem RowT.far {q : Option Nat} (h : RowT P base w v es) (hg : w.grownBy w' q) (h1 : v.ownBlock = none ∨ v.ownBlock ≠ q) (h2 : ∀ k, q = some k → ∀ e ∈ es, k < e.lo ∨ e.hi ≤ k) : RowT P base w' v es :=
  ⟨h.own.kept hg h1, fun e he => ⟨(h.ok e he).1, Nat.le_trans (h.ok e he).2.1 hg.size, (h.ok e he).2.2.on (Kps.grown hg fun k _ hk e2 => by
    have := h2 k e2.symm e he
    omega)⟩, h.apart, h.out⟩
theorem RowT.keep (h : RowT P base w v es) (hb : Below w.heap.size w w') : RowT P base w' v es :=
  ⟨own_kept h.own hb, fun e he => ⟨(h.ok e he).1, Nat.le_trans (h.ok e he).2.1 hb.size, (h.ok e he).2.2.on (Kps.new hb)⟩, h.apart, h.out⟩
theorem RowT.push (h : RowT P base w v es) {e : ETx} (ht : TxOk e.t) (hh : e.hi ≤ w.heap.size) (hp : Sty (fun k => e.lo ≤ k ∧ k < e.hi) w (P e)) (ha : ∀ a ∈ es, a.hi ≤ e.lo) (ho : ∀ q, v.ownBlock = some q → q < e.lo ∨ e.hi ≤ q)
    (hown : w'.ownsRow base 66 4 v' (es.length + 1) (esL es ++ e.cells)) (hg : w.grownBy w' v.ownBlock) (hat : v'.ownBlock = v.ownBlock ∨ v'.ownBlock = some w.heap.size) : RowT P base w' v' (es ++ [e]) := by
  have hall : ∀ a ∈ es ++ [e], TxOk a.t ∧ a.hi ≤ w.heap.size ∧ Sty (fun k => a.lo ≤ k ∧ k < a.hi) w (P a) ∧ ∀ q, v.ownBlock = some q → q < a.lo ∨ a.hi ≤ q := fun a hm => by
    rcases List.mem_append.1 hm with hm | hm
    · exact ⟨(h.ok a hm).1, (h.ok a hm).2.1, (h.ok a hm).2.2, fun q hq => h.out q hq a hm⟩
    · rw [List.mem_singleton.1 hm]
      exact ⟨ht, hh, hp, ho⟩
  refine ⟨by rw [esL_snoc, List.length_append]; exact hown, fun a hm => ?_, ?_, fun q hq a hm => ?_⟩
  · obtain ⟨h1, h2, h3, h4⟩ := hall a hm
    exact ⟨h1, Nat.le_trans h2 hg.size, h3.on (Kps.grown hg fun k _ hk e2 => by have := h4 k e2.symm; omega)⟩
  · rw [List.pairwise_append]
    refine ⟨h.apart, List.pairwise_singleton _ _, fun a hm b hb => ?_⟩
    rw [List.mem_singleton.1 hb]
    exact ha a hm
  · obtain ⟨h1, h2, h3, h4⟩ := hall a hm
    rcases hat with h5 | h5
    · exact h4 q (by rw [← h5]; exact hq)
    · rw [h5] at hq
      have := Option.some.inj hq
      exact .inr (by omega)
/-- Of two elements neither's interval meets the other's. -/
theorem RowT.two (h : RowT P base w v es) {i j : Nat} {a b : ETx} (hi : es[i]? = some a) (hj : es[j]? = some b) (hne : i ≠ j) : a.hi ≤ b.lo ∨ b.hi ≤ a.lo := by
  have hp := List.pairwise_iff_getElem.1 h.apart
  obtain ⟨h1, rfl⟩ := List.getElem?_eq_some_iff.1 hi
  obtain ⟨h2, rfl⟩ := List.getElem?_eq_some_iff.1 hj
  rcases Nat.lt_or_gt_of_ne hne with h3 | h3
  · exact .inl (hp i j h1 h2 h3)
  · exact .inr (hp j i h2 h1 h3)
end
end Go.Proofs.YtdamhoagiooicaaGreatDoor.Sha
