/-
  The law of the tree, whole: what the program's tree answers is what the document's does. Conditions: the numbers lie where the slice says; the errors and the table of the rounds' words are there.
-/
import Derived.Test.YtbgagaaoldjhnaaGreatDoorMg19
import Derived.Test.YtbgagaaoldjhnaaGreatDoorMg21
import Derived.Test.YtbgagaaoldjhnaaGreatDoorMg22
import Derived.Test.YtbgagaaoldjhnaaGreatDoorMg13
import Derived.Test.YtbgagaaoldjhnaaGreatDoorMg23
import Derived.Test.YtbgagaaoldjhnaaGreatDoorMg01
import Derived.Test.YtbgagaaoldjhnaaGreatDoorMg11
namespace Go.Proofs.YtbgagaaoldjhnaaGreatDoor.Sha
open Go Go.RowKit
theorem range_lo {w w' : World} {B b o : Nat} {cs : List Value} (h : w.rangeAt b o cs) (hb : Below B w w') (hlt : b < B) : w'.rangeAt b o cs := fun j v hj => by
  rw [hb.cell (p := ⟨b, o + j, none⟩) hlt]
  exact h j v hj
theorem row_lo {w w' : World} {B g : Nat} {o : Obj} (h : w.heap[g]? = some o) (hb : Below B w w') (hlt : g < B) : w'.heap[g]? = some o := by rw [hb.block g hlt]; exact h
theorem fill_three (size : Nat) (zs : List Value) (hz : zs.length = 3 * size) (cs ds es : List Value) (hc : cs.length = size) (hd : ds.length = size) (he : es.length = size) : Instr.fill (fun i => some (i * size, size)) zs.toArray [(0, .agg cs.toArray), (1, .agg ds.toArray), (2, .agg es.toArray)] = some (cs ++ ds ++ es).toArray := by
  have h := fill_part (fun i => some (i * size, size)) 0 0 (.agg cs.toArray) cs zs [(1, .agg ds.toArray), (2, .agg es.toArray)] rfl (by simp [hc]) (by omega)
  rw [h, List.take_zero, List.nil_append]
  have h2 := fill_part (fun i => some (i * size, size)) 1 size (.agg ds.toArray) ds (cs ++ zs.drop (0 + cs.length)) [(2, .agg es.toArray)] rfl (by simp [hd]) (by rw [List.length_append, List.length_drop]; omega)
  rw [h2, List.take_append_of_le_length (by omega), List.take_of_length_le (by omega)]
  have h3 := fill_part (fun i => some (i * size, size)) 2 (2 * size) (.agg es.toArray) es (cs ++ ds ++ (cs ++ zs.drop (0 + cs.length)).drop (size + ds.length)) [] rfl (by simp [he]) (by simp only [List.length_append, List.length_drop]; omega)
  rw [h3]
  have e : (cs ++ ds ++ (cs ++ zs.drop (0 + cs.length)).drop (size + ds.length)).drop (2 * size + es.length) = [] := List.drop_eq_nil_of_le (by simp only [List.length_append, List.length_drop]; omega)
  rw [e, List.append_nil, List.take_append_of_le_length (by rw [List.length_append]; omega), List.take_of_length_le (by rw [List.length_append]; omega)]
  rfl
theorem wpList_slice_three {P : Program} {ops : Array Oper} {rest : List Oper} {o : Oper} {a : Act} {w : World} {Q : Exit → Act → World → Prop} (hg : o.guard = none) (t e : TypeId) (x y q : Operand) (ho : o.op = .buildSlice t 3 #[(0, x), (1, y), (2, q)]) (cs ds es : List Value) (hx : a.eval x = .agg cs.toArray) (hy : a.eval y = .agg ds.toArray) (hq : a.eval q = .agg es.toArray)
    (hu : P.underlying t = some (.slice e)) (i : TypeInfo) (z : Value) (hi : P.info? e = some i) (hz : i.zero = some z) (hs : i.size = cs.length) (hs2 : i.size = ds.length) (hs3 : i.size = es.length) (hp : 0 < cs.length) (hm : cs.length ≤ 16777)
    (h : wpList P ops Q rest (a.put o.dst (.slice (some ⟨w.heap.size, 0, none⟩) 3 3)) (w.alloc (.cells (cs ++ ds ++ es).toArray e))) : wpList P ops Q (o :: rest) a w :=
  wpList_plain hg fun _ hK => by
    refine wp_buildSlice t e 3 _ ho (cs ++ ds ++ es).toArray i z hu hi hz (by rw [hs]; omega) (by rw [hs]; omega) ?_ (hK _ _ h)
    have e1 : (Array.map (fun (q : Nat × Operand) => (q.1, a.eval q.2)) #[(0, x), (1, y), (2, q)]).toList = [(0, .agg cs.toArray), (1, .agg ds.toArray), (2, .agg es.toArray)] := by simp [hx, hy, hq]
    rw [show (Array.map (fun (i, x) => (i, a.eval x)) #[(0, x), (1, y), (2, q)]).toList = [(0, .agg cs.toArray), (1, .agg ds.toArray), (2, .agg es.toArray)] from e1, ← Array.toArray_toList (xs := Array.map _ _)]
    exact fill_three i.size _ (by simp) cs ds es hs.symm hs2.symm hs3.symm
def id7 : List UInt8 := 7 :: List.replicate 31 0
def TpI1 (z : Nat → Int) (m base b mb a : Nat) (w3 : World) (vi : Value) (wr : World) : Prop :=
  ∃ k : Nat, vi = .int .i64 ((k : Int) + 1) ∧ k ≤ m ∧ TwoM base b mb a (treeN z k) (treeN z k) wr ∧ Below base w3 wr
set_option maxHeartbeats 8000000 in
set_option maxRecDepth 100000 in
theorem treeplays_main (E : Nat → Addr) (w : World) (sp : Option Addr) (m cap : Nat) (z : Nat → Int) (hs : THd) (x y t : Int) (hk : KTab w) (hE : Errs w E) (hz : SrcZ w sp m z) (hhs : HdOk hs) (hx : -9223372036854775808 ≤ x ∧ x ≤ 9223372036854775807) (hy : -9223372036854775808 ≤ y ∧ y ≤ 9223372036854775807) (ht : -9223372036854775808 ≤ t ∧ t ≤ 9223372036854775807) :
    Calls Tryz.prog 3 #[.slice sp m cap, .agg (hdL hs).toArray, .int .i64 x, .int .i64 y, .int .i64 t] w fun e w' => e = .returned (.bool true) ∧ Below w.heap.size w w' := by
  have HK := Lib.hid hk
  have HE := Lib.hid hE
  have HZ := Lib.hid hz
  have HX := Lib.hid hx
  have HY := Lib.hid hy
  have HT0 := Lib.hid ht
  have HS := Lib.hid hhs
  have LST : Hid ((hdL hs).length = 68) := hdL_length hhs
  have SST : Hid ((hdL hs).toArray.size = 68) := by show _ = _; rw [List.size_toArray]; exact hdL_length hhs
  obtain ⟨cst, hcst⟩ : ∃ cst, cst = hdL hs := ⟨_, rfl⟩
  rw [← hcst] at LST SST ⊢
  have CST := Lib.hid hcst
  clear hk hE hz hx hy ht hhs hcst
  go_enter Tryz.func3, Tryz.ntmps3
  go_upto_region 1 with fail
  have f0 := heap_alloc_new w (.cells cst.toArray 27 (0, 0))
  have bb : Below w.heap.size w (w.alloc (.cells cst.toArray 27 (0, 0))) := ((Below.refl w.heap.size w).alloc (by first | exact Nat.le_refl _ | (simp only [World.size_alloc]; omega)) (.cells cst.toArray 27 (0, 0)))
  generalize hq : World.alloc _ _ = w0
  have eq : w.alloc (.cells cst.toArray 27 (0, 0)) = w0 := hq
  rw [eq] at f0 bb
  obtain ⟨g6, hg6⟩ : ∃ g6, g6 = w.heap.size := ⟨_, rfl⟩
  have Gg6 : Hid (w.heap.size ≤ g6) := by show _ ≤ _; omega
  rw [← hg6] at f0 ⊢
  have F6 := Lib.hid f0
  have B0 := Lib.hid bb
  clear f0 bb hq eq hg6
  go_wp2_with fail
  refine (tfirst_any w0 (HK.out.below B0.out)).mono ?_
  rintro e w1 ⟨rfl, bb⟩
  have B1 := Lib.hid (B0.out.trans (bb.mono B0.out.size))
  have F6 := Lib.hid (row_below F6.out bb)
  clear bb B0
  by_cases h60 : 60 < m
  · have q : (60 : Int) < (m : Int) := by omega
    go_wp2_with fail
    go_ret
    exact ⟨rfl, B1.out⟩
  have q : ¬ (60 : Int) < (m : Int) := by omega
  have HM : Hid (m ≤ 60) := by show _ ≤ _; omega
  clear h60
  go_wp2_with fail
  clear q
  refine (tgrown_any w1 sp m cap z (fun h0 => by obtain ⟨cb, coff, e, hc⟩ := HZ.out h0; exact ⟨cb, coff, e, fun i hi => ⟨cell_below (hc i hi).1 B1.out, (hc i hi).2⟩⟩) HM.out).mono ?_
  rintro e w2 ⟨hv, rfl, ho, bb⟩
  have B2 := Lib.hid (B1.out.trans (bb.mono B1.out.size))
  have F6 := Lib.hid (row_below F6.out bb)
  obtain ⟨nn, hnn⟩ : ∃ nn, nn = m + 1 := ⟨_, rfl⟩
  have GL : Hid ((grownN z m).length = nn) := by show _ = _; rw [grownN_length, hnn]
  obtain ⟨so, co, rfl⟩ : ∃ so co, hv = .slice so nn co := by
    obtain ⟨so, co, e⟩ := (ho.at (by omega)).shape
    exact ⟨so, co, by rw [e, List.length_map, GL.out]⟩
  obtain ⟨bo, oo, rfl, hgo⟩ := (ho.at (by omega)).get (by omega)
  have HG : Hid (∀ j, j < nn → w2.rangeAt bo (oo + j * 68) (hdL (hdAt z j))) := fun j hj => hgo j _ (by rw [List.getElem?_map, grownN_get z m j (by omega)]; rfl)
  have LH : Hid (∀ j, (hdL (hdAt z j)).length = 68) := fun j => hdL_length (hdAt_ok z j)
  have HNN := Lib.hid hnn
  have BOL : Hid (bo < w2.heap.size) := by
    obtain ⟨u, hu⟩ : ∃ u, (hdL (hdAt z 0))[0]? = some u := ⟨_, List.getElem?_eq_getElem (by rw [LH.out]; omega)⟩
    exact World.block_lt_of_cell? w2 _ (HG.out 0 (by omega) 0 u hu)
  clear bb ho hgo
  have RX := Lib.hid (HG.out 0 (by omega))
  have LX := Lib.hid (LH.out 0)
  have NW := Lib.hid (ctnew_any w2 (hdAt z 0) (hdAt_ok z 0) (HK.out.below B2.out))
  have NR := Lib.hid (fun W => rtnew_any W (hdAt z 0) (hdAt_ok z 0))
  obtain ⟨c0, hc0⟩ : ∃ c0, c0 = hdL (hdAt z 0) := ⟨_, rfl⟩
  rw [← hc0] at RX LX NW NR
  have p0 : (0 : Int) < (nn : Int) := by omega
  clear hc0 hnn
  go_wp2_with ((with_reducible show wpList _ _ _ _ _ _); first | (refine wpList_load_mid rfl 27 (.tmp 52) rfl bo (oo + 0 * 68) rfl c0 _ RX.out Tryz.underlying27 rfl (by rw [LX.out]; kernel_rfl) ?_; go_frame) | (refine wpList_load_mid rfl 27 (.tmp 52) rfl bo oo rfl c0 _ RX.out Tryz.underlying27 rfl (by rw [LX.out]; kernel_rfl) ?_; go_frame))
  refine NW.out.mono ?_
  rintro e w3 ⟨b, mb, g, rfl, hct, bb⟩
  have RX := Lib.hid (range_below RX.out bb)
  go_wp2_with ((with_reducible show wpList _ _ _ _ _ _); first | (refine wpList_load_mid rfl 27 (.tmp 56) rfl bo (oo + 0 * 68) rfl c0 _ RX.out Tryz.underlying27 rfl (by rw [LX.out]; kernel_rfl) ?_; go_frame) | (refine wpList_load_mid rfl 27 (.tmp 56) rfl bo oo rfl c0 _ RX.out Tryz.underlying27 rfl (by rw [LX.out]; kernel_rfl) ?_; go_frame))
  refine (NR.out w3).mono ?_
  rintro e w4 ⟨a, av, rfl, hrt, hla, bb2⟩
  have B4 : Hid (Below w2.heap.size w2 w4) := bb.trans (bb2.mono bb.size)
  have HAB : Hid (w2.heap.size ≤ a) := Nat.le_trans bb.size hla
  have T4 : Hid (TwoM w2.heap.size b mb a [stT (hdAt z 0)] [stT (hdAt z 0)] w4) := ⟨_, av, rfl, hct.below bb2, ⟨hrt.box, hrt.row.lower bb.size⟩⟩
  obtain ⟨base, hbase⟩ : ∃ base, base = w2.heap.size := ⟨_, rfl⟩
  rw [← hbase] at B4 T4 HAB BOL
  have BS : Hid (base = w2.heap.size) := hbase
  clear hct hrt hla bb bb2 NW NR hbase RX LX p0
  go_wp2_with fail
  go_loopw [15] (fun vi wr => TpI1 z m base b mb a w2 vi wr) (fun vi _ => (m + 1) - (intOf vi).toNat)
  case atStart => exact ⟨0, by go_num, Nat.zero_le _, T4.out, B4.out⟩
  case round =>
    clear T4 B4
    obtain ⟨k, rfl, hk, htw, hb⟩ := hrel
    have TT := Lib.hid htw
    have BZ := Lib.hid hb
    have BW : Hid (Below w.heap.size w wr) := B2.out.trans ((show Below w2.heap.size w2 wr by rw [← BS.out]; exact hb).mono B2.out.size)
    have BSZ : Hid (base ≤ wr.heap.size) := by show _ ≤ _; rw [BS.out]; exact hb.size
    have TI := Lib.hid (treeN_i z k (by have := HM.out; omega))
    have HNK := HNN.out
    have km := HM.out
    clear htw hb
    by_cases hlt : k + 1 < nn
    · have RX := Lib.hid (range_below (HG.out (k + 1) hlt) (show Below w2.heap.size w2 wr by rw [← BS.out]; exact BZ.out))
      have LX := Lib.hid (LH.out (k + 1))
      have AT : Hid (addT (treeN z k) (hdAt z (k + 1)) = treeN z (k + 1)) := rfl
      obtain ⟨L, hL⟩ : ∃ L, L = treeN z k := ⟨_, rfl⟩
      obtain ⟨hd, hhd⟩ : ∃ hd, hd = hdAt z (k + 1) := ⟨_, rfl⟩
      have OKH : HdOk hd := by rw [hhd]; exact hdAt_ok z _
      rw [← hL] at TT TI AT
      rw [← hhd] at RX LX AT
      have TRL := TI.out.tr
      have AD : Hid (∀ W, Below wr.heap.size wr W → Calls Tryz.prog 9 #[(.pointer (some ⟨b, 0, none⟩)), .agg (hdL hd).toArray] W fun e w' => e = .returned (errV E (addE L hd - 100)) ∧ TwoM base b mb a (addT L hd) L w' ∧ Below base W w') := fun W hW => two_cadd E W base b mb a L hd (TT.out.below hW) TRL OKH (HK.out.below (BW.out.trans (hW.mono BW.out.size))) (HE.out.below (BW.out.trans (hW.mono BW.out.size))).ce (Nat.le_trans BSZ.out hW.size)
      have AR : Hid (∀ W, TwoM base b mb a (addT L hd) L W → Below base wr W → Calls Tryz.prog 10 #[(.pointer (some ⟨a, 0, none⟩)), .agg (hdL hd).toArray] W fun e w' => e = .returned (.int .i64 (addE L hd : Int)) ∧ TwoM base b mb a (addT L hd) (addT L hd) w' ∧ Below base W w') := fun W hT hW => two_radd W base b mb a (addT L hd) L hd hT TRL.ok TRL.le OKH (Nat.le_trans BSZ.out hW.size) HAB.out
      have IS : Hid (∀ W, Below base wr W → Calls Tryz.prog 8 #[errV E (addE L hd - 100), .int .i64 (addE L hd : Int)] W fun e w' => e = .returned (.bool true) ∧ Below W.heap.size W w') := fun W hW => two_is E L hd W (HE.out.below ((BW.out.trans ((hW.mono (Nat.le_trans B2.out.size (by rw [BS.out]; exact Nat.le_refl _)))))))
      obtain ⟨cx, hcx⟩ : ∃ cx, cx = hdL hd := ⟨_, rfl⟩
      rw [← hcx] at AD AR RX LX
      obtain ⟨k1, hk1⟩ : ∃ k1, k1 = k + 1 := ⟨_, rfl⟩
      have K1 := Lib.hid hk1
      have ek : (k : Int) + 1 = (k1 : Int) := by omega
      rw [ek]
      rw [← hk1] at RX
      have p0 : 0 ≤ (k1 : Int) := by omega
      have p1 : (k1 : Int) < (nn : Int) := by omega
      have p2 : k1 ≤ 60 := by omega
      have LT := Lib.hid hlt
      clear hk hlt hhd hcx hk1 ek HNK km TRL OKH hL
      go_upto_region 14 with fail
      refine wp_region_held_drew (S := (fun w' => Below base wr w')) (by kernel_rfl) (Below.drew (Below.refl _ _)) (fun hHeld => ?_)
      have DR := Lib.hid (Below.drew (Below.refl wr.heap.size wr))
      generalize hwd : wr.drew = wd at DR hHeld ⊢
      clear hwd
      refine held_take (i := 0) (v := (.pointer (some ⟨b, 0, none⟩))) rfl (by kernel_rfl) (by kernel_rfl) (by kernel_rfl) (fun _ _ _ h => h) (Or.inl ⟨by rfl, fun w' _ => by kernel_rfl⟩) hHeld ?_
      go_frame
      refine held_take (i := 1) (v := (.slice (some ⟨bo, oo, none⟩) nn co)) rfl (by kernel_rfl) (by kernel_rfl) (by kernel_rfl) (fun _ _ _ h => h) (Or.inl ⟨by rfl, fun w' _ => by kernel_rfl⟩) hHeld ?_
      go_frame
      refine held_take (i := 2) (v := (.int .i64 (k1 : Int))) rfl (by kernel_rfl) (by kernel_rfl) (by kernel_rfl) (fun _ _ _ h => h) (Or.inl ⟨by rfl, fun w' _ => by kernel_rfl⟩) hHeld ?_
      go_frame
      refine held_take (i := 3) (v := (.pointer (some ⟨bo, oo + k1 * 68, none⟩))) rfl (by kernel_rfl) (by kernel_rfl) (by kernel_rfl) (fun _ _ _ h => h) (Or.inl ⟨by rfl, fun w' _ => by go_simp⟩) hHeld ?_
      go_frame
      refine held_take (i := 4) (v := (.agg cx.toArray)) rfl (by kernel_rfl) (by kernel_rfl) (by kernel_rfl) (fun _ _ _ h => h) (Sha.yieldsIf_load_mid (by rfl) 27 (.tmp 70) rfl bo (oo + k1 * 68) rfl cx _ (fun w' hw' => range_lo RX.out hw' BOL.out) Tryz.underlying27 rfl (by rw [LX.out]; kernel_rfl)) hHeld ?_
      go_frame
      refine held_take (i := 6) (v := (.pointer (some ⟨a, 0, none⟩))) rfl (by kernel_rfl) (by kernel_rfl) (by kernel_rfl) (fun _ _ _ h => h) (Or.inl ⟨by rfl, fun w' _ => by kernel_rfl⟩) hHeld ?_
      go_frame
      refine held_take (i := 7) (v := (.slice (some ⟨bo, oo, none⟩) nn co)) rfl (by kernel_rfl) (by kernel_rfl) (by kernel_rfl) (fun _ _ _ h => h) (Or.inl ⟨by rfl, fun w' _ => by kernel_rfl⟩) hHeld ?_
      go_frame
      refine held_take (i := 8) (v := (.int .i64 (k1 : Int))) rfl (by kernel_rfl) (by kernel_rfl) (by kernel_rfl) (fun _ _ _ h => h) (Or.inl ⟨by rfl, fun w' _ => by kernel_rfl⟩) hHeld ?_
      go_frame
      refine held_take (i := 9) (v := (.pointer (some ⟨bo, oo + k1 * 68, none⟩))) rfl (by kernel_rfl) (by kernel_rfl) (by kernel_rfl) (fun _ _ _ h => h) (Or.inl ⟨by rfl, fun w' _ => by go_simp⟩) hHeld ?_
      go_frame
      refine held_take (i := 10) (v := (.agg cx.toArray)) rfl (by kernel_rfl) (by kernel_rfl) (by kernel_rfl) (fun _ _ _ h => h) (Sha.yieldsIf_load_mid (by rfl) 27 (.tmp 76) rfl bo (oo + k1 * 68) rfl cx _ (fun w' hw' => range_lo RX.out hw' BOL.out) Tryz.underlying27 rfl (by rw [LX.out]; kernel_rfl)) hHeld ?_
      go_frame
      refine wpAnyH_ready (rs := [5]) (by kernel_rfl) (by simp) (held_cons rfl (fun K hK => ?_) AllReadyH.nil)
      rw [if_pos (by rfl)]
      go_simp
      refine (AD.out _ DR.out).mono ?_
      rintro e w5 ⟨rfl, h1, hb⟩
      have T5 := Lib.hid h1
      have hv5 := hHeld.trans hb
      clear h1 hb hHeld AD DR
      go_wp2_with fail
      refine hK.out _ _ hv5 (fun hHeld => ?_)
      clear hK K hv5
      refine wpAnyH_ready (rs := [11]) (by kernel_rfl) (by simp) (held_cons rfl (fun K hK => ?_) AllReadyH.nil)
      rw [if_pos (by rfl)]
      go_simp
      refine (AR.out _ T5.out hHeld).mono ?_
      rintro e w6 ⟨rfl, h1, hb⟩
      have T6 := Lib.hid h1
      have hv6 := hHeld.trans hb
      clear h1 hb hHeld AR T5
      go_wp2_with fail
      refine hK.out _ _ hv6 (fun hHeld => ?_)
      clear hK K hv6
      refine wpAnyH_ready (rs := [12]) (by kernel_rfl) (by simp) (held_cons rfl (fun K hK => ?_) AllReadyH.nil)
      rw [if_pos (by rfl)]
      go_simp
      refine (IS.out _ hHeld).mono ?_
      rintro e w7 ⟨rfl, bb⟩
      have T7 := Lib.hid (T6.out.below bb)
      have hv7 := hHeld.trans (bb.mono (Nat.le_trans BSZ.out hHeld.size))
      clear bb T6 hHeld IS
      go_wp2_with fail
      refine hK.out _ _ hv7 (fun hHeld => ?_)
      clear hK K hv7
      refine held_take (i := 13) (v := (.bool false)) rfl (by kernel_rfl) (by kernel_rfl) (by kernel_rfl) (fun _ _ _ h => h) (Or.inl ⟨by rfl, fun w' _ => by go_simp⟩) hHeld ?_
      go_frame
      refine wpAnyH_done (by kernel_rfl) ?_ _
      have B7 := Lib.hid hHeld
      clear hHeld
      go_wp2_with fail
      go_roundw
      case rel =>
        have := K1.out
        exact ⟨k + 1, by have e := K1.out; subst e; go_num, by have := HNN.out; have := LT.out; omega, by rw [← AT.out]; exact T7.out, BZ.out.trans B7.out⟩
      case measure =>
        have h1 := K1.out
        have h2 := LT.out
        have h3 := HNN.out
        simp [intOf]
        omega
    · have hkm : k = m := by have := HNN.out; omega
      subst hkm
      have e1 : (k : Int) + 1 = (nn : Int) := by omega
      rw [e1]
      clear hk hlt e1 HNK km
      obtain ⟨L, hL⟩ : ∃ L, L = treeN z k := ⟨_, rfl⟩
      rw [← hL] at TT TI
      obtain ⟨r, hr, hrn⟩ := numb_nat x nn (by have := HNN.out; omega)
      obtain ⟨s, hs2, hsn⟩ := numb_nat y nn (by have := HNN.out; omega)
      have RN := Lib.hid hrn
      have SN := Lib.hid hsn
      have N1 : Hid (∀ W, Calls Tryz.prog 11 #[.int .i64 x, .int .i64 (nn : Int)] W fun e w' => e = .returned (.int .i64 (r : Int)) ∧ Below W.heap.size W w') := fun W => by
        have h := numb_any x (nn : Int) (by have := HNN.out; omega) (by have := HNN.out; have := HM.out; omega) HX.out W
        rw [hr] at h
        exact h.mono fun e w' q => ⟨q.1, q.2 ▸ Below.refl _ _⟩
      have N2 : Hid (∀ W, Calls Tryz.prog 11 #[.int .i64 y, .int .i64 (nn : Int)] W fun e w' => e = .returned (.int .i64 (s : Int)) ∧ Below W.heap.size W w') := fun W => by
        have h := numb_any y (nn : Int) (by have := HNN.out; omega) (by have := HNN.out; have := HM.out; omega) HY.out W
        rw [hs2] at h
        exact h.mono fun e w' q => ⟨q.1, q.2 ▸ Below.refl _ _⟩
      have TRL := TI.out.tr
      obtain ⟨LF, hLF⟩ : ∃ LF, LF = addT L hs := ⟨_, rfl⟩
      have TRF : Hid (TrL LF) := by
        show TrL LF
        rw [hLF]
        unfold addT
        split
        · rename_i h0; exact TRL.push HS.out h0
        · exact TRL
      have HASF : Hid (∀ j, j ≤ k → 0 ≤ findT LF (hdId (hdAt z j))) := fun j hj => by
        have h0 := TI.out.has j hj
        rw [hLF]
        unfold addT
        split
        · rw [findT_push _ h0]; exact h0
        · exact h0
      have AE : Hid (addE LF (hdAt z r) = 109) := by
        show _ = _
        unfold addE
        rw [if_pos (HASF.out r (by have := HNN.out; have := RN.out; omega))]
      have FS : Hid (wr.heap[g6]? = some (.cells cst.toArray 27 (0, 0))) := row_below F6.out (show Below w2.heap.size w2 wr by rw [← BS.out]; exact BZ.out)
      have GLO : Hid (g6 < base) := by show _ < _; rw [BS.out]; exact (Array.getElem?_eq_some_iff.1 F6.out).1
      have HEW : Hid (∀ W, Below base wr W → Errs W E) := fun W hW => HE.out.below (BW.out.trans (hW.mono (by rw [BS.out]; exact B2.out.size)))
      have HKW : Hid (∀ W, Below base wr W → KTab W) := fun W hW => HK.out.below (BW.out.trans (hW.mono (by rw [BS.out]; exact B2.out.size)))
      have AD1 : Hid (∀ W, Below wr.heap.size wr W → Calls Tryz.prog 9 #[(.pointer (some ⟨b, 0, none⟩)), .agg cst.toArray] W fun e w' => e = .returned (errV E (addE L hs - 100)) ∧ TwoM base b mb a LF L w' ∧ Below base W w') := fun W hW => by
        rw [CST.out, hLF]
        exact two_cadd E W base b mb a L hs (TT.out.below hW) TRL HS.out (HKW.out W (hW.mono BSZ.out)) (HEW.out W (hW.mono BSZ.out)).ce (Nat.le_trans BSZ.out hW.size)
      have AR1 : Hid (∀ W, TwoM base b mb a LF L W → Below base wr W → Calls Tryz.prog 10 #[(.pointer (some ⟨a, 0, none⟩)), .agg cst.toArray] W fun e w' => e = .returned (.int .i64 (addE L hs : Int)) ∧ TwoM base b mb a LF LF w' ∧ Below base W w') := fun W hT hW => by
        have h := two_radd W base b mb a LF L hs hT TRL.ok TRL.le HS.out (Nat.le_trans BSZ.out hW.size) HAB.out
        rw [← hLF] at h
        rw [CST.out]
        exact h
      have IS1 : Hid (∀ W, Below base wr W → Calls Tryz.prog 8 #[errV E (addE L hs - 100), .int .i64 (addE L hs : Int)] W fun e w' => e = .returned (.bool true) ∧ Below W.heap.size W w') := fun W hW => two_is E L hs W (HEW.out W hW)
      have RR : Hid (wr.rangeAt bo (oo + r * 68) (hdL (hdAt z r))) := range_below (HG.out r RN.out) (show Below w2.heap.size w2 wr by rw [← BS.out]; exact BZ.out)
      have LR := Lib.hid (LH.out r)
      have AD2 : Hid (∀ W, TwoM base b mb a LF LF W → Below base wr W → Calls Tryz.prog 9 #[(.pointer (some ⟨b, 0, none⟩)), .agg (hdL (hdAt z r)).toArray] W fun e w' => e = .returned (errV E 9) ∧ TwoM base b mb a LF LF w' ∧ Below base W w') := fun W hT hW => by
        have h := two_cadd E W base b mb a LF (hdAt z r) hT TRF.out (hdAt_ok z r) (HKW.out W hW) (HEW.out W hW).ce (Nat.le_trans BSZ.out hW.size)
        have e1 : addT LF (hdAt z r) = LF := by unfold addT; rw [AE.out, if_neg (by decide)]
        rw [e1, AE.out] at h
        exact h
      have IS2 : Hid (∀ W, Below base wr W → Calls Tryz.prog 8 #[errV E 9, .int .i64 109] W fun e w' => e = .returned (.bool true) ∧ Below W.heap.size W w') := fun W hW => is_any E 9 109 true (by decide) W (HEW.out W hW) (by decide)
      obtain ⟨cr, hcr⟩ : ∃ cr, cr = hdL (hdAt z r) := ⟨_, rfl⟩
      rw [← hcr] at RR LR AD2
      have CR := Lib.hid hcr
      have rp0 : 0 ≤ (r : Int) := by omega
      have rp1 : (r : Int) < (nn : Int) := by have := RN.out; omega
      have rp2 : r ≤ 61 := by have := RN.out; have := HNN.out; have := HM.out; omega
      clear TRL hL hr hs2 hrn hsn hLF hcr
      go_upto_region 16 with fail
      refine wp_region_held_drew (S := (fun w' => Below base wr w')) (by kernel_rfl) (Below.drew (Below.refl _ _)) (fun hHeld => ?_)
      have DR := Lib.hid (Below.drew (Below.refl wr.heap.size wr))
      generalize hwd : wr.drew = wd at DR hHeld ⊢
      clear hwd
      refine held_take (i := 0) (v := (.pointer (some ⟨b, 0, none⟩))) rfl (by kernel_rfl) (by kernel_rfl) (by kernel_rfl) (fun _ _ _ h => h) (Or.inl ⟨by rfl, fun w' _ => by kernel_rfl⟩) hHeld ?_
      go_frame
      refine held_take (i := 1) (v := (.agg cst.toArray)) rfl (by kernel_rfl) (by kernel_rfl) (by kernel_rfl) (fun _ _ _ h => h) (yieldsIf_load_row (by rfl) 27 (.tmp 6) rfl g6 rfl 27 cst.toArray (0, 0) _ (fun w' hw' => row_lo FS.out hw' GLO.out) Tryz.underlying27 rfl (by show _ = some cst.toArray.size; rw [SST.out]; kernel_rfl)) hHeld ?_
      go_frame
      refine held_take (i := 3) (v := (.pointer (some ⟨a, 0, none⟩))) rfl (by kernel_rfl) (by kernel_rfl) (by kernel_rfl) (fun _ _ _ h => h) (Or.inl ⟨by rfl, fun w' _ => by kernel_rfl⟩) hHeld ?_
      go_frame
      refine held_take (i := 4) (v := (.agg cst.toArray)) rfl (by kernel_rfl) (by kernel_rfl) (by kernel_rfl) (fun _ _ _ h => h) (yieldsIf_load_row (by rfl) 27 (.tmp 6) rfl g6 rfl 27 cst.toArray (0, 0) _ (fun w' hw' => row_lo FS.out hw' GLO.out) Tryz.underlying27 rfl (by show _ = some cst.toArray.size; rw [SST.out]; kernel_rfl)) hHeld ?_
      go_frame
      refine wpAnyH_ready (rs := [2]) (by kernel_rfl) (by simp) (held_cons rfl (fun K hK => ?_) AllReadyH.nil)
      rw [if_pos (by rfl)]
      go_simp
      refine (AD1.out _ DR.out).mono ?_
      rintro e w5 ⟨rfl, h1, hb⟩
      have T5 := Lib.hid h1
      have hvw5 := hHeld.trans hb
      clear h1 hb hHeld AD1 DR
      go_wp2_with fail
      refine hK.out _ _ hvw5 (fun hHeld => ?_)
      clear hK K hvw5
      refine wpAnyH_ready (rs := [5]) (by kernel_rfl) (by simp) (held_cons rfl (fun K hK => ?_) AllReadyH.nil)
      rw [if_pos (by rfl)]
      go_simp
      refine (AR1.out _ T5.out hHeld).mono ?_
      rintro e w6 ⟨rfl, h1, hb⟩
      have T6 := Lib.hid h1
      have hvw6 := hHeld.trans hb
      clear h1 hb hHeld AR1 T5
      go_wp2_with fail
      refine hK.out _ _ hvw6 (fun hHeld => ?_)
      clear hK K hvw6
      refine wpAnyH_ready (rs := [6]) (by kernel_rfl) (by simp) (held_cons rfl (fun K hK => ?_) AllReadyH.nil)
      rw [if_pos (by rfl)]
      go_simp
      refine (IS1.out _ hHeld).mono ?_
      rintro e w7 ⟨rfl, bb⟩
      have T7 := Lib.hid (T6.out.below bb)
      have hvw7 := hHeld.trans (bb.mono (Nat.le_trans BSZ.out hHeld.size))
      clear bb T6 hHeld IS1
      go_wp2_with fail
      refine hK.out _ _ hvw7 (fun hHeld => ?_)
      clear hK K hvw7
      refine held_take (i := 7) (v := (.bool false)) rfl (by kernel_rfl) (by kernel_rfl) (by kernel_rfl) (fun _ _ _ h => h) (Or.inl ⟨by rfl, fun w' _ => by go_simp⟩) hHeld ?_
      go_frame
      refine held_take (i := 8) (v := (.bool false)) rfl (by kernel_rfl) (by kernel_rfl) (by kernel_rfl) (fun _ _ _ h => h) (Or.inl ⟨by rfl, fun w' _ => by kernel_rfl⟩) hHeld ?_
      go_frame
      refine held_take (i := 9) (v := (.pointer (some ⟨b, 0, none⟩))) rfl (by kernel_rfl) (by kernel_rfl) (by kernel_rfl) (fun _ _ _ h => h) (Or.inl ⟨by rfl, fun w' _ => by kernel_rfl⟩) hHeld ?_
      go_frame
      refine held_take (i := 10) (v := (.slice (some ⟨bo, oo, none⟩) nn co)) rfl (by kernel_rfl) (by kernel_rfl) (by kernel_rfl) (fun _ _ _ h => h) (Or.inl ⟨by rfl, fun w' _ => by kernel_rfl⟩) hHeld ?_
      go_frame
      refine held_take (i := 11) (v := (.int .i64 x)) rfl (by kernel_rfl) (by kernel_rfl) (by kernel_rfl) (fun _ _ _ h => h) (Or.inl ⟨by rfl, fun w' _ => by kernel_rfl⟩) hHeld ?_
      go_frame
      refine held_take (i := 12) (v := (.slice (some ⟨bo, oo, none⟩) nn co)) rfl (by kernel_rfl) (by kernel_rfl) (by kernel_rfl) (fun _ _ _ h => h) (Or.inl ⟨by rfl, fun w' _ => by kernel_rfl⟩) hHeld ?_
      go_frame
      refine held_take (i := 13) (v := (.int .i64 (nn : Int))) rfl (by kernel_rfl) (by kernel_rfl) (by kernel_rfl) (fun _ _ _ h => h) (Or.inl ⟨by rfl, fun w' _ => by go_simp⟩) hHeld ?_
      go_frame
      refine wpAnyH_ready (rs := [14]) (by kernel_rfl) (by simp) (held_cons rfl (fun K hK => ?_) AllReadyH.nil)
      rw [if_pos (by rfl)]
      go_simp
      refine (N1.out _).mono ?_
      rintro e w8 ⟨rfl, bb⟩
      have T8 := Lib.hid (T7.out.below bb)
      have hvw8 := hHeld.trans (bb.mono (Nat.le_trans BSZ.out hHeld.size))
      clear bb T7 hHeld
      go_wp2_with fail
      refine hK.out _ _ hvw8 (fun hHeld => ?_)
      clear hK K hvw8
      refine held_take (i := 15) (v := (.pointer (some ⟨bo, oo + r * 68, none⟩))) rfl (by kernel_rfl) (by kernel_rfl) (by kernel_rfl) (fun _ _ _ h => h) (Or.inl ⟨by rfl, fun w' _ => by go_simp⟩) hHeld ?_
      go_frame
      refine held_take (i := 16) (v := (.agg cr.toArray)) rfl (by kernel_rfl) (by kernel_rfl) (by kernel_rfl) (fun _ _ _ h => h) (Sha.yieldsIf_load_mid (by rfl) 27 (.tmp 96) rfl bo (oo + r * 68) rfl cr _ (fun w' hw' => range_lo RR.out hw' BOL.out) Tryz.underlying27 rfl (by rw [LR.out]; kernel_rfl)) hHeld ?_
      go_frame
      refine wpAnyH_ready (rs := [17]) (by kernel_rfl) (by simp) (held_cons rfl (fun K hK => ?_) AllReadyH.nil)
      rw [if_pos (by rfl)]
      go_simp
      refine (AD2.out _ T8.out hHeld).mono ?_
      rintro e w9 ⟨rfl, h1, hb⟩
      have T9 := Lib.hid h1
      have hvw9 := hHeld.trans hb
      clear h1 hb hHeld AD2 T8
      go_wp2_with fail
      refine hK.out _ _ hvw9 (fun hHeld => ?_)
      clear hK K hvw9
      refine wpAnyH_ready (rs := [18]) (by kernel_rfl) (by simp) (held_cons rfl (fun K hK => ?_) AllReadyH.nil)
      rw [if_pos (by rfl)]
      go_simp
      refine (IS2.out _ hHeld).mono ?_
      rintro e w10 ⟨rfl, bb⟩
      have T10 := Lib.hid (T9.out.below bb)
      have hvw10 := hHeld.trans (bb.mono (Nat.le_trans BSZ.out hHeld.size))
      clear bb T9 hHeld IS2
      go_wp2_with fail
      refine hK.out _ _ hvw10 (fun hHeld => ?_)
      clear hK K hvw10
      refine held_take (i := 19) (v := (.bool false)) rfl (by kernel_rfl) (by kernel_rfl) (by kernel_rfl) (fun _ _ _ h => h) (Or.inl ⟨by rfl, fun w' _ => by go_simp⟩) hHeld ?_
      go_frame
      refine held_take (i := 20) (v := (.bool false)) rfl (by kernel_rfl) (by kernel_rfl) (by kernel_rfl) (fun _ _ _ h => h) (Or.inl ⟨by rfl, fun w' _ => by go_simp⟩) hHeld ?_
      go_frame
      refine wpAnyH_done (by kernel_rfl) ?_ _
      go_upto_region 18 with fail
      have T10' := T10.out
      obtain ⟨M, av2, ME0, hct0, hrt0⟩ := T10'
      have ME := Lib.hid ME0
      have HT := Lib.hid hct0
      have RT := Lib.hid hrt0
      have B10 := Lib.hid hHeld
      have BWX : Hid (Below w.heap.size w w10) := BW.out.trans (hHeld.mono (by rw [BS.out]; exact B2.out.size))
      have RRX : Hid (w10.rangeAt bo (oo + r * 68) cr) := range_lo RR.out hHeld BOL.out
      have RSX : Hid (w10.rangeAt bo (oo + s * 68) (hdL (hdAt z s))) := range_lo (range_below (HG.out s SN.out) (show Below w2.heap.size w2 wr by rw [← BS.out]; exact BZ.out)) hHeld BOL.out
      have LS := Lib.hid (LH.out s)
      have IDR : Hid (∀ W, Calls Tryz.prog 12 #[.agg cr.toArray] W fun e w' => e = .returned (.agg ((hdId (hdAt z r)).map bV).toArray) ∧ Below W.heap.size W w') := fun W => by rw [CR.out]; exact rheadid_any _ (hdAt_ok z r) W
      have IDS : Hid (∀ W, Calls Tryz.prog 12 #[.agg (hdL (hdAt z s)).toArray] W fun e w' => e = .returned (.agg ((hdId (hdAt z s)).map bV).toArray) ∧ Below W.heap.size W w') := fun W => rheadid_any _ (hdAt_ok z s) W
      obtain ⟨cs2, hcs2⟩ : ∃ cs2, cs2 = hdL (hdAt z s) := ⟨_, rfl⟩
      rw [← hcs2] at RSX LS IDS
      have sp0 : 0 ≤ (s : Int) := by omega
      have sp1 : (s : Int) < (nn : Int) := by have := SN.out; omega
      have sp2 : s ≤ 61 := by have := SN.out; have := HNN.out; have := HM.out; omega
      have LA1 : Hid (((hdId (hdAt z r)).map bV).length = 32) := by show _ = _; rw [List.length_map]; exact hdId_length _
      have LA2 : Hid (((hdId (hdAt z s)).map bV).length = 32) := by show _ = _; rw [List.length_map]; exact hdId_length _
      obtain ⟨J1, hJ1⟩ : ∃ J1, J1 = hdId (hdAt z r) := ⟨_, rfl⟩
      obtain ⟨J2, hJ2⟩ : ∃ J2, J2 = hdId (hdAt z s) := ⟨_, rfl⟩
      rw [← hJ1] at IDR LA1
      rw [← hJ2] at IDS LA2
      obtain ⟨ca, hca⟩ : ∃ ca, ca = J1.map bV := ⟨_, rfl⟩
      obtain ⟨cb, hcb⟩ : ∃ cb, cb = J2.map bV := ⟨_, rfl⟩
      rw [← hca] at IDR LA1
      rw [← hcb] at IDS LA2
      have CAE := Lib.hid hca
      have CBE := Lib.hid hcb
      have LJ1 : Hid (J1.length = 32) := by show _ = _; rw [hJ1]; exact hdId_length _
      have LJ2 : Hid (J2.length = 32) := by show _ = _; rw [hJ2]; exact hdId_length _
      obtain ⟨i0, hi, hz0, hz1, hz2⟩ := info_parts info_hash
      have CB : Hid (Below w10.heap.size w10 w10) := Below.refl _ _
      clear hHeld hct0 hrt0 ME0 T10 hcs2 hJ1 hJ2 hca hcb RR TT
      go_wp2_with fail
      refine (N1.out _).mono ?_
      rintro e wa ⟨rfl, bb⟩
      have CB := Lib.hid (CB.out.trans (bb.mono CB.out.size))
      have RRX := Lib.hid (range_below RRX.out bb)
      have RSX := Lib.hid (range_below RSX.out bb)
      clear bb
      go_wp2_with ((with_reducible show wpList _ _ _ _ _ _); (refine wpList_load_mid rfl 27 (.tmp 107) rfl bo (oo + r * 68) rfl cr _ RRX.out Tryz.underlying27 rfl (by rw [LR.out]; kernel_rfl) ?_; go_frame))
      refine (IDR.out _).mono ?_
      rintro e wb ⟨rfl, bb⟩
      have CB := Lib.hid (CB.out.trans (bb.mono CB.out.size))
      have RSX := Lib.hid (range_below RSX.out bb)
      clear bb RRX
      go_wp2_with fail
      refine (N2.out _).mono ?_
      rintro e wc ⟨rfl, bb⟩
      have CB := Lib.hid (CB.out.trans (bb.mono CB.out.size))
      have RSX := Lib.hid (range_below RSX.out bb)
      clear bb
      go_wp2_with ((with_reducible show wpList _ _ _ _ _ _); (refine wpList_load_mid rfl 27 (.tmp 115) rfl bo (oo + s * 68) rfl cs2 _ RSX.out Tryz.underlying27 rfl (by rw [LS.out]; kernel_rfl) ?_; go_frame))
      refine (IDS.out _).mono ?_
      rintro e we ⟨rfl, bb⟩
      have CB := Lib.hid (CB.out.trans (bb.mono CB.out.size))
      clear bb RSX
      go_wp2_with ((with_reducible show wpList _ _ _ _ _ _); first | (refine wpList_buildTo rfl 25 _ rfl _ rfl (id7.map bV).toArray (by kernel_rfl) ?_; go_frame) | (refine wpList_slice_three rfl 42 25 (.tmp 109) (.tmp 117) (.tmp 118) rfl ca cb (id7.map bV) rfl rfl rfl Tryz.underlying42 i0 _ hi hz0 (by rw [hz1, LA1.out]) (by rw [hz1, LA2.out]) (by rw [hz1]; rfl) (by rw [LA1.out]; omega) (by rw [LA1.out]; omega) ?_; go_frame))
      have nf := heap_alloc_new we (.cells (ca ++ cb ++ id7.map bV).toArray 25 (0, 0))
      have bb := (Below.refl we.heap.size we).alloc (Nat.le_refl _) (.cells (ca ++ cb ++ id7.map bV).toArray 25 (0, 0))
      generalize hq : World.alloc _ _ = wI
      have eq : we.alloc (.cells (ca ++ cb ++ id7.map bV).toArray 25 (0, 0)) = wI := hq
      rw [eq] at nf bb
      obtain ⟨gI, hgI⟩ : ∃ g, g = we.heap.size := ⟨_, rfl⟩
      rw [← hgI] at nf ⊢
      have CB := Lib.hid (CB.out.trans (bb.mono CB.out.size))
      obtain ⟨J, hJ⟩ : ∃ J : Nat → List UInt8, J = fun n => if n = 0 then J1 else if n = 1 then J2 else id7 := ⟨_, rfl⟩
      have LJ : Hid (∀ n, (J n).length = 32) := fun n => by
        rw [hJ]
        show (if n = 0 then J1 else if n = 1 then J2 else id7).length = 32
        split
        · exact LJ1.out
        · split
          · exact LJ2.out
          · rfl
      have RJ : Hid (∀ n, n < 3 → wI.rangeAt gI (n * 32) ((J n).map bV)) := fun n hn => by
        have l1 := LA1.out
        have l2 := LA2.out
        have hrw : RwOwn 32 25 0 wI (.slice (some ⟨gI, 0, none⟩) 3 3) [ca, cb, id7.map bV] := by
          have hl : ([ca, cb, id7.map bV] : List (List Value)).flatten = ca ++ cb ++ id7.map bV := by simp
          have hlen : (ca ++ cb ++ id7.map bV).length = 3 * 32 := by rw [List.length_append, List.length_append, l1, l2]; rfl
          refine ⟨⟨by rw [hl]; exact hlen, .inr ⟨gI, 3, _, rfl, Nat.zero_le _, nf, Nat.le_refl _, by unfold maxLen; omega, by rw [List.size_toArray]; exact hlen, ?_⟩⟩, fun x hx => ?_⟩
          · rw [hl]
            exact List.take_of_length_le (by rw [hlen]; exact Nat.le_refl _)
          · simp only [List.mem_cons, List.not_mem_nil, or_false] at hx
            rcases hx with rfl | rfl | rfl
            · exact l1
            · exact l2
            · rfl
        obtain ⟨b', o', e, hr⟩ := (hrw.at (by decide)).get (by decide)
        cases e
        have h := hr n ((J n).map bV) (by
          rw [hJ]
          rcases n with _ | _ | _ | n
          · show some ca = some (J1.map bV); rw [CAE.out]
          · show some cb = some (J2.map bV); rw [CBE.out]
          · rfl
          · omega)
        rwa [Nat.zero_add] at h
      clear nf bb hq eq hgI hJ LJ1 LJ2 LA1 LA2 CAE CBE N1 N2
      go_wp2_with fail
      go_loopw [17] (fun vi wu => ∃ n : Nat, vi = .int .i64 (n : Int) ∧ n ≤ 3 ∧ Below wI.heap.size wI wu) (fun vi _ => 3 - (intOf vi).toNat)
      case atStart => exact ⟨0, rfl, by omega, Below.refl _ _⟩
      case round =>
        obtain ⟨n, rfl, hn3, hbw⟩ := hrel
        have BN := Lib.hid hbw
        clear hbw
        by_cases hlt : n < 3
        · obtain ⟨id, hid⟩ : ∃ id, id = J n := ⟨_, rfl⟩
          have LID : Hid (id.length = 32) := by show _ = _; rw [hid]; exact LJ.out n
          have RW0 : Hid (wr.rangeAt gI (n * 32) (id.map bV)) := by rw [hid]; exact range_below (RJ.out n hlt) BN.out
          have BX : Hid (Below w10.heap.size w10 wr) := CB.out.trans (BN.out.mono CB.out.size)
          have BI := Lib.hid BN.out
          have TRM : Hid (TrL (ndM M)) := by show TrL _; rw [ME.out]; exact TRF.out
          obtain ⟨qh, qt, qw, qb, hq⟩ : ∃ a b c d, ofT LF id = (a, b, c, d) := ⟨_, _, _, _, rfl⟩
          have QH : Hid (HdOk qh) := by
            have e : qh = (ofT LF id).1 := by rw [hq]
            show HdOk _
            rw [e]
            unfold ofT
            split
            · exact ⟨by decide, rfl, rfl, by decide, by decide, by decide⟩
            · rcases findT_cases LF id with ⟨e1, _⟩ | ⟨i, x, e1, hx, _⟩
              · omega
              · rw [e1, getD_int hx]
                exact (TRF.out.ok x (List.mem_of_getElem? hx)).2.1
          have CHD : Hid (∀ W, Below w10.heap.size w10 W → Calls Tryz.prog 13 #[(.pointer (some ⟨b, 0, none⟩)), .agg (id.map bV).toArray] W fun e w' => e = .returned (.tuple #[.agg (hdL qh).toArray, .bool qb]) ∧ Below W.heap.size W w') := fun W hW => by
            have h := cthead_any W base b mb M id (HT.out.below hW) TRM.out LID.out
            rw [ME.out, hq] at h
            exact h
          have CHT : Hid (∀ W, Below w10.heap.size w10 W → Calls Tryz.prog 15 #[(.pointer (some ⟨b, 0, none⟩)), .agg (id.map bV).toArray] W fun e w' => e = .returned (.tuple #[.int .i64 qt, .bool qb]) ∧ Below W.heap.size W w') := fun W hW => by
            have h := ctheight_any W base b mb M id (HT.out.below hW) TRM.out LID.out
            rw [ME.out, hq] at h
            exact h
          have CWK : Hid (∀ W, Below w10.heap.size w10 W → Calls Tryz.prog 16 #[(.pointer (some ⟨b, 0, none⟩)), .agg (id.map bV).toArray] W fun e w' => e = .returned (.tuple #[.int .u64 (qw : Int), .bool qb]) ∧ Below W.heap.size W w') := fun W hW => by
            have h := ctwork_any W base b mb M id (HT.out.below hW) TRM.out LID.out
            rw [ME.out, hq] at h
            exact h
          have ROF : Hid (∀ W, Below w10.heap.size w10 W → Calls Tryz.prog 14 #[(.pointer (some ⟨a, 0, none⟩)), .agg (id.map bV).toArray] W fun e w' => e = .returned (.tuple #[.agg (hdL qh).toArray, .int .i64 qt, .int .u64 (qw : Int), .bool qb]) ∧ Below W.heap.size W w') := fun W hW => by
            have h := rtof_any W base a av2 LF id (RT.out.below hW) TRF.out.ok LID.out TRF.out.le
            rw [hq] at h
            exact h
          obtain ⟨an, han⟩ : ∃ an, an = (ancA LF (findT LF id) t).getD (List.replicate 32 0) := ⟨_, rfl⟩
          obtain ⟨ab, hab⟩ : ∃ ab, ab = (ancA LF (findT LF id) t).isSome := ⟨_, rfl⟩
          have LAN : Hid (an.length = 32) := by
            show _ = _
            rw [han]
            unfold ancA
            cases ancT LF (findT LF id) t with
            | none => rfl
            | some j => exact idAt_len TRF.out.ok j.toNat
          have CAN : Hid (∀ W, Below w10.heap.size w10 W → Calls Tryz.prog 18 #[(.pointer (some ⟨b, 0, none⟩)), .agg (id.map bV).toArray, .int .i64 t] W fun e w' => e = .returned (.tuple #[.agg (an.map bV).toArray, .bool ab]) ∧ Below W.heap.size W w') := fun W hW => by
            have h := ctancestor_any W base b mb M id t (HT.out.below hW) TRM.out LID.out
            rw [ME.out, ← han, ← hab] at h
            exact h
          have RAN : Hid (∀ W, Below w10.heap.size w10 W → Calls Tryz.prog 19 #[(.pointer (some ⟨a, 0, none⟩)), .agg (id.map bV).toArray, .int .i64 t] W fun e w' => e = .returned (.tuple #[.agg (an.map bV).toArray, .bool ab]) ∧ Below W.heap.size W w') := fun W hW => by
            have h := ranc_any W base a av2 LF id t (RT.out.below hW) TRF.out LID.out
            rw [← han, ← hab] at h
            exact h
          have SMA := Lib.hid (fun W => same_any an an LAN.out LAN.out W)
          have SMH : Hid (∀ W, Calls Tryz.prog 17 #[.agg (hdL qh).toArray, .agg (hdL qh).toArray] W fun e w' => e = .returned (.bool true) ∧ Below W.heap.size W w') := fun W => samehd_any qh qh QH.out QH.out true (by simp) W
          have CUN : Hid (∀ W, Below w10.heap.size w10 W → Calls Tryz.prog 22 #[(.pointer (some ⟨b, 0, none⟩)), .agg (id.map bV).toArray] W fun e w' => ∃ v, e = .returned v ∧ HsAt w' v (undR LF id) ∧ Below W.heap.size W w') := fun W hW => by
            refine (ctunder_any W base b mb M id (HT.out.below hW) TRM.out LID.out).mono ?_
            rintro e w' ⟨bb, v, l, he, h1, h2, h3⟩
            rw [ME.out] at h2
            rw [under_same TRF.out h2 h3] at h1
            exact ⟨v, he, h1, bb⟩
          have RUN : Hid (∀ W, Below w10.heap.size w10 W → Calls Tryz.prog 23 #[(.pointer (some ⟨a, 0, none⟩)), .agg (id.map bV).toArray] W fun e w' => ∃ v, e = .returned v ∧ HsAt w' v (undR LF id) ∧ Below W.heap.size W w') := fun W hW => by
            refine (runder_any W base a av2 LF id (RT.out.below hW) TRF.out.ok TRF.out.down LID.out TRF.out.le).mono ?_
            rintro e w' ⟨v, he, h1, bb⟩
            exact ⟨v, he, h1.at, bb⟩
          have LLU : Hid ((undR LF id).length ≤ 1048576) := by
            have h1 := unF_len LF (findT LF id) LF.length
            rw [unF_end] at h1
            have h2 := TRF.out.le
            show _ ≤ _
            omega
          obtain ⟨cq, hcq⟩ : ∃ cq, cq = hdL qh := ⟨_, rfl⟩
          have LQ : Hid (cq.length = 68) := by show _ = _; rw [hcq]; exact hdL_length QH.out
          have SQ : Hid (cq.toArray.size = 68) := by show _ = _; rw [List.size_toArray]; exact LQ.out
          have OQ : Hid (cq.toArray.all (·.oneCell') = true) := by show _ = _; rw [hcq]; exact hdL_one qh
          obtain ⟨can, hcan⟩ : ∃ can, can = an.map bV := ⟨_, rfl⟩
          have LN2 : Hid (can.length = 32) := by show _ = _; rw [hcan, List.length_map]; exact LAN.out
          have SN2 : Hid (can.toArray.size = 32) := by show _ = _; rw [List.size_toArray]; exact LN2.out
          have ON2 : Hid (can.toArray.all (·.oneCell') = true) := by show _ = _; rw [hcan]; exact bV_one _
          have SMA2 : Hid (∀ W, Calls Tryz.prog 20 #[.agg can.toArray, .agg can.toArray] W fun e w' => e = .returned (.bool true) ∧ Below W.heap.size W w') := fun W => by
            have h := SMA.out W
            rw [decide_eq_true rfl] at h
            rw [hcan]
            exact h
          obtain ⟨ci, hci⟩ : ∃ ci, ci = id.map bV := ⟨_, rfl⟩
          have RW : Hid (wr.rangeAt gI (n * 32) ci) := by rw [hci]; exact RW0.out
          have LI : Hid (ci.length = 32) := by show _ = _; rw [hci, List.length_map]; exact LID.out
          rw [← hci] at CHD CHT CWK ROF CAN RAN CUN RUN
          rw [← hcq] at CHD ROF SMH
          rw [← hcan] at CAN RAN
          have CIE := Lib.hid hci
          clear hci hcq hcan hq han hab SMA RW0
          go_wp2_with ((with_reducible show wpList _ _ _ _ _ _); (refine wpList_load_mid rfl 25 (.tmp 128) rfl gI (n * 32) rfl ci _ RW.out Tryz.underlying25 rfl (by rw [LI.out]; kernel_rfl) ?_; go_frame))
          refine (CHD.out _ BX.out).mono ?_
          rintro e wa ⟨rfl, bb⟩
          have BI := Lib.hid (BI.out.trans (bb.mono BI.out.size))
          have BX := Lib.hid (BX.out.trans (bb.mono BX.out.size))
          have RW := Lib.hid (range_below RW.out bb)
          clear bb
          go_upto_region 23 with ((with_reducible show wpList _ _ _ _ _ _); (refine wpList_store_row rfl 27 (.tmp 18) (.tmp 131) rfl wa.heap.size cq.toArray rfl rfl 27 _ (heap_alloc_new _ _) (by rw [SQ.out]; kernel_rfl) (by rw [SQ.out]; rfl) OQ.out ?_; go_frame))
          obtain ⟨_, f2, f3, f4⟩ := fill_setup (Below.refl wa.heap.size wa) (hdL hdZ).toArray cq.toArray 27
          generalize hqwb : World.setRow _ _ _ = wb
          have ewb : World.setRow (wa.alloc (.cells (hdL hdZ).toArray 27)) wa.heap.size cq.toArray = wb := hqwb
          rw [ewb] at f2 f3 f4
          obtain ⟨g18, hg18⟩ : ∃ g18, g18 = wa.heap.size := ⟨_, rfl⟩
          rw [← hg18] at f2 ⊢
          have F18 := Lib.hid f2
          have Ng18 : Hid (wa.heap.size ≤ g18) := by show _ ≤ _; rw [hg18]; exact Nat.le_refl _
          have BI := Lib.hid (BI.out.trans (f4.mono BI.out.size))
          have BX := Lib.hid (BX.out.trans (f4.mono BX.out.size))
          have RW := Lib.hid (range_below RW.out f4)
          clear f2 f3 f4 hqwb ewb hg18
          go_wp2_with ((with_reducible show wpList _ _ _ _ _ _); (refine wpList_load_mid rfl 25 (.tmp 137) rfl gI (n * 32) rfl ci _ RW.out Tryz.underlying25 rfl (by rw [LI.out]; kernel_rfl) ?_; go_frame))
          refine (ROF.out _ BX.out).mono ?_
          rintro e wc ⟨rfl, bb⟩
          have BI := Lib.hid (BI.out.trans (bb.mono BI.out.size))
          have BX := Lib.hid (BX.out.trans (bb.mono BX.out.size))
          have RW := Lib.hid (range_below RW.out bb)
          have F18 := Lib.hid (row_below F18.out bb)
          clear bb
          go_upto_region 24 with ((with_reducible show wpList _ _ _ _ _ _); (refine wpList_store_row rfl 27 (.tmp 20) (.tmp 140) rfl wc.heap.size cq.toArray rfl rfl 27 _ (heap_alloc_new _ _) (by rw [SQ.out]; kernel_rfl) (by rw [SQ.out]; rfl) OQ.out ?_; go_frame))
          obtain ⟨_, f2, f3, f4⟩ := fill_setup (Below.refl wc.heap.size wc) (hdL hdZ).toArray cq.toArray 27
          generalize hqwd : World.setRow _ _ _ = wd
          have ewd : World.setRow (wc.alloc (.cells (hdL hdZ).toArray 27)) wc.heap.size cq.toArray = wd := hqwd
          rw [ewd] at f2 f3 f4
          obtain ⟨g20, hg20⟩ : ∃ g20, g20 = wc.heap.size := ⟨_, rfl⟩
          rw [← hg20] at f2 ⊢
          have F20 := Lib.hid f2
          have Ng20 : Hid (wc.heap.size ≤ g20) := by show _ ≤ _; rw [hg20]; exact Nat.le_refl _
          have BI := Lib.hid (BI.out.trans (f4.mono BI.out.size))
          have BX := Lib.hid (BX.out.trans (f4.mono BX.out.size))
          have RW := Lib.hid (range_below RW.out f4)
          have F18 := Lib.hid (row_below F18.out f4)
          clear f2 f3 f4 hqwd ewd hg20
          go_wp2_with ((with_reducible show wpList _ _ _ _ _ _); (refine wpList_load_mid rfl 25 (.tmp 148) rfl gI (n * 32) rfl ci _ RW.out Tryz.underlying25 rfl (by rw [LI.out]; kernel_rfl) ?_; go_frame))
          refine (CHT.out _ BX.out).mono ?_
          rintro e we2 ⟨rfl, bb⟩
          have BI := Lib.hid (BI.out.trans (bb.mono BI.out.size))
          have BX := Lib.hid (BX.out.trans (bb.mono BX.out.size))
          have RW := Lib.hid (range_below RW.out bb)
          have F18 := Lib.hid (row_below F18.out bb)
          have F20 := Lib.hid (row_below F20.out bb)
          clear bb
          go_wp2_with ((with_reducible show wpList _ _ _ _ _ _); (refine wpList_load_mid rfl 25 (.tmp 157) rfl gI (n * 32) rfl ci _ RW.out Tryz.underlying25 rfl (by rw [LI.out]; kernel_rfl) ?_; go_frame))
          refine (CWK.out _ BX.out).mono ?_
          rintro e wf ⟨rfl, bb⟩
          have BI := Lib.hid (BI.out.trans (bb.mono BI.out.size))
          have BX := Lib.hid (BX.out.trans (bb.mono BX.out.size))
          have RW := Lib.hid (range_below RW.out bb)
          have F18 := Lib.hid (row_below F18.out bb)
          have F20 := Lib.hid (row_below F20.out bb)
          clear bb
          go_wp2_with ((with_reducible show wpList _ _ _ _ _ _); first | (refine wpList_load_rowG 27 (.tmp 18) rfl g18 rfl 27 cq.toArray (0, 0) _ F18.out Tryz.underlying27 rfl (by rw [SQ.out]; kernel_rfl) rfl ?_; go_frame) | (refine wpList_load_rowG 27 (.tmp 20) rfl g20 rfl 27 cq.toArray (0, 0) _ F20.out Tryz.underlying27 rfl (by rw [SQ.out]; kernel_rfl) rfl ?_; go_frame))
          refine (SMH.out _).mono ?_
          rintro e wg ⟨rfl, bb⟩
          have BI := Lib.hid (BI.out.trans (bb.mono BI.out.size))
          have BX := Lib.hid (BX.out.trans (bb.mono BX.out.size))
          have RW := Lib.hid (range_below RW.out bb)
          clear bb
          clear F18 F20
          go_wp2_with ((with_reducible show wpList _ _ _ _ _ _); (refine wpList_load_mid rfl 25 (.tmp 195) rfl gI (n * 32) rfl ci _ RW.out Tryz.underlying25 rfl (by rw [LI.out]; kernel_rfl) ?_; go_frame))
          refine (CAN.out _ BX.out).mono ?_
          rintro e wh ⟨rfl, bb⟩
          have BI := Lib.hid (BI.out.trans (bb.mono BI.out.size))
          have BX := Lib.hid (BX.out.trans (bb.mono BX.out.size))
          have RW := Lib.hid (range_below RW.out bb)
          clear bb
          go_upto_region 29 with ((with_reducible show wpList _ _ _ _ _ _); (refine wpList_store_row rfl 25 (.tmp 28) (.tmp 199) rfl wh.heap.size can.toArray rfl rfl 25 _ (heap_alloc_new _ _) (by rw [SN2.out]; kernel_rfl) (by rw [SN2.out]; rfl) ON2.out ?_; go_frame))
          obtain ⟨_, f2, f3, f4⟩ := fill_setup (Below.refl wh.heap.size wh) (List.replicate 32 (bV 0)).toArray can.toArray 25
          generalize hqwi : World.setRow _ _ _ = wi
          have ewi : World.setRow (wh.alloc (.cells (List.replicate 32 (bV 0)).toArray 25)) wh.heap.size can.toArray = wi := hqwi
          rw [ewi] at f2 f3 f4
          obtain ⟨g28, hg28⟩ : ∃ g28, g28 = wh.heap.size := ⟨_, rfl⟩
          rw [← hg28] at f2 ⊢
          have F28 := Lib.hid f2
          have Ng28 : Hid (wh.heap.size ≤ g28) := by show _ ≤ _; rw [hg28]; exact Nat.le_refl _
          have BI := Lib.hid (BI.out.trans (f4.mono BI.out.size))
          have BX := Lib.hid (BX.out.trans (f4.mono BX.out.size))
          have RW := Lib.hid (range_below RW.out f4)
          clear f2 f3 f4 hqwi ewi hg28
          go_wp2_with ((with_reducible show wpList _ _ _ _ _ _); (refine wpList_load_mid rfl 25 (.tmp 205) rfl gI (n * 32) rfl ci _ RW.out Tryz.underlying25 rfl (by rw [LI.out]; kernel_rfl) ?_; go_frame))
          refine (RAN.out _ BX.out).mono ?_
          rintro e wj ⟨rfl, bb⟩
          have BI := Lib.hid (BI.out.trans (bb.mono BI.out.size))
          have BX := Lib.hid (BX.out.trans (bb.mono BX.out.size))
          have RW := Lib.hid (range_below RW.out bb)
          have F28 := Lib.hid (row_below F28.out bb)
          clear bb
          go_upto_region 30 with ((with_reducible show wpList _ _ _ _ _ _); (refine wpList_store_row rfl 25 (.tmp 30) (.tmp 209) rfl wj.heap.size can.toArray rfl rfl 25 _ (heap_alloc_new _ _) (by rw [SN2.out]; kernel_rfl) (by rw [SN2.out]; rfl) ON2.out ?_; go_frame))
          obtain ⟨_, f2, f3, f4⟩ := fill_setup (Below.refl wj.heap.size wj) (List.replicate 32 (bV 0)).toArray can.toArray 25
          generalize hqwk : World.setRow _ _ _ = wk
          have ewk : World.setRow (wj.alloc (.cells (List.replicate 32 (bV 0)).toArray 25)) wj.heap.size can.toArray = wk := hqwk
          rw [ewk] at f2 f3 f4
          obtain ⟨g30, hg30⟩ : ∃ g30, g30 = wj.heap.size := ⟨_, rfl⟩
          rw [← hg30] at f2 ⊢
          have F30 := Lib.hid f2
          have Ng30 : Hid (wj.heap.size ≤ g30) := by show _ ≤ _; rw [hg30]; exact Nat.le_refl _
          have BI := Lib.hid (BI.out.trans (f4.mono BI.out.size))
          have BX := Lib.hid (BX.out.trans (f4.mono BX.out.size))
          have RW := Lib.hid (range_below RW.out f4)
          have F28 := Lib.hid (row_below F28.out f4)
          clear f2 f3 f4 hqwk ewk hg30
          clear SMH
          refine wp_region_held_drew (S := (fun w' => Below wk.heap.size wk w')) (by kernel_rfl) (Below.drew (Below.refl _ _)) (fun hHeld => ?_)
          generalize hwd : wk.drew = wd at  hHeld ⊢
          clear hwd
          refine held_take (i := 0) (v := (.bool ab)) rfl (by kernel_rfl) (by kernel_rfl) (by kernel_rfl) (fun _ _ _ h => h) (Or.inl ⟨by rfl, fun w' _ => by kernel_rfl⟩) hHeld ?_
          go_frame
          refine held_take (i := 1) (v := (.bool ab)) rfl (by kernel_rfl) (by kernel_rfl) (by kernel_rfl) (fun _ _ _ h => h) (Or.inl ⟨by rfl, fun w' _ => by kernel_rfl⟩) hHeld ?_
          go_frame
          refine held_take (i := 2) (v := (.bool false)) rfl (by kernel_rfl) (by kernel_rfl) (by kernel_rfl) (fun _ _ _ h => h) (Or.inl ⟨by rfl, fun w' _ => by cases ab <;> kernel_rfl⟩) hHeld ?_
          go_frame
          refine held_take (i := 3) (v := (.bool false)) rfl (by kernel_rfl) (by kernel_rfl) (by kernel_rfl) (fun _ _ _ h => h) (Or.inl ⟨by rfl, fun w' _ => by kernel_rfl⟩) hHeld ?_
          go_frame
          refine held_take (i := 4) (v := (.agg can.toArray)) rfl (by kernel_rfl) (by kernel_rfl) (by kernel_rfl) (fun _ _ _ h => h) (yieldsIf_load_row (by rfl) 25 (.tmp 28) rfl g28 rfl 25 can.toArray (0, 0) _ (fun w' hw' => row_below F28.out hw') Tryz.underlying25 rfl (by rw [SN2.out]; kernel_rfl)) hHeld ?_
          go_frame
          refine held_take (i := 5) (v := (.agg can.toArray)) rfl (by kernel_rfl) (by kernel_rfl) (by kernel_rfl) (fun _ _ _ h => h) (yieldsIf_load_row (by rfl) 25 (.tmp 30) rfl g30 rfl 25 can.toArray (0, 0) _ (fun w' hw' => row_below F30.out hw') Tryz.underlying25 rfl (by rw [SN2.out]; kernel_rfl)) hHeld ?_
          go_frame
          refine wpAnyH_ready (rs := [6]) (by kernel_rfl) (by simp) (held_cons rfl (fun K hK => ?_) AllReadyH.nil)
          rw [if_pos (by rfl)]
          go_simp
          refine (SMA2.out _).mono ?_
          rintro e v1 ⟨rfl, bb⟩
          have hv1 := hHeld.trans (bb.mono hHeld.size)
          clear bb hHeld
          go_wp2_with fail
          refine hK.out _ _ hv1 (fun hHeld => ?_)
          clear hK K hv1
          refine held_take (i := 7) (v := (.bool false)) rfl (by kernel_rfl) (by kernel_rfl) (by kernel_rfl) (fun _ _ _ h => h) (Or.inl ⟨by rfl, fun w' _ => by go_simp⟩) hHeld ?_
          go_frame
          refine held_take (i := 8) (v := (.bool false)) rfl (by kernel_rfl) (by kernel_rfl) (by kernel_rfl) (fun _ _ _ h => h) (Or.inl ⟨by rfl, fun w' _ => by go_simp⟩) hHeld ?_
          go_frame
          refine held_take (i := 9) (v := (.bool false)) rfl (by kernel_rfl) (by kernel_rfl) (by kernel_rfl) (fun _ _ _ h => h) (Or.inl ⟨by rfl, fun w' _ => by kernel_rfl⟩) hHeld ?_
          go_frame
          refine held_take (i := 10) (v := (.pointer (some ⟨b, 0, none⟩))) rfl (by kernel_rfl) (by kernel_rfl) (by kernel_rfl) (fun _ _ _ h => h) (Or.inl ⟨by rfl, fun w' _ => by kernel_rfl⟩) hHeld ?_
          go_frame
          refine held_take (i := 11) (v := (.slice (some ⟨gI, 0, none⟩) 3 3)) rfl (by kernel_rfl) (by kernel_rfl) (by kernel_rfl) (fun _ _ _ h => h) (Or.inl ⟨by rfl, fun w' _ => by kernel_rfl⟩) hHeld ?_
          go_frame
          refine held_take (i := 12) (v := (.int .i64 (n : Int))) rfl (by kernel_rfl) (by kernel_rfl) (by kernel_rfl) (fun _ _ _ h => h) (Or.inl ⟨by rfl, fun w' _ => by kernel_rfl⟩) hHeld ?_
          go_frame
          refine held_take (i := 13) (v := (.pointer (some ⟨gI, n * 32, none⟩))) rfl (by kernel_rfl) (by kernel_rfl) (by kernel_rfl) (fun _ _ _ h => h) (Or.inl ⟨by rfl, fun w' _ => by go_simp⟩) hHeld ?_
          go_frame
          refine held_take (i := 14) (v := (.agg ci.toArray)) rfl (by kernel_rfl) (by kernel_rfl) (by kernel_rfl) (fun _ _ _ h => h) (Sha.yieldsIf_load_mid (by rfl) 25 (.tmp 224) rfl gI (n * 32) rfl ci _ (fun w' hw' => range_below RW.out hw') Tryz.underlying25 rfl (by rw [LI.out]; kernel_rfl)) hHeld ?_
          go_frame
          refine held_take (i := 16) (v := (.pointer (some ⟨a, 0, none⟩))) rfl (by kernel_rfl) (by kernel_rfl) (by kernel_rfl) (fun _ _ _ h => h) (Or.inl ⟨by rfl, fun w' _ => by kernel_rfl⟩) hHeld ?_
          go_frame
          refine held_take (i := 17) (v := (.slice (some ⟨gI, 0, none⟩) 3 3)) rfl (by kernel_rfl) (by kernel_rfl) (by kernel_rfl) (fun _ _ _ h => h) (Or.inl ⟨by rfl, fun w' _ => by kernel_rfl⟩) hHeld ?_
          go_frame
          refine held_take (i := 18) (v := (.int .i64 (n : Int))) rfl (by kernel_rfl) (by kernel_rfl) (by kernel_rfl) (fun _ _ _ h => h) (Or.inl ⟨by rfl, fun w' _ => by kernel_rfl⟩) hHeld ?_
          go_frame
          refine held_take (i := 19) (v := (.pointer (some ⟨gI, n * 32, none⟩))) rfl (by kernel_rfl) (by kernel_rfl) (by kernel_rfl) (fun _ _ _ h => h) (Or.inl ⟨by rfl, fun w' _ => by go_simp⟩) hHeld ?_
          go_frame
          refine held_take (i := 20) (v := (.agg ci.toArray)) rfl (by kernel_rfl) (by kernel_rfl) (by kernel_rfl) (fun _ _ _ h => h) (Sha.yieldsIf_load_mid (by rfl) 25 (.tmp 230) rfl gI (n * 32) rfl ci _ (fun w' hw' => range_below RW.out hw') Tryz.underlying25 rfl (by rw [LI.out]; kernel_rfl)) hHeld ?_
          go_frame
          refine wpAnyH_ready (rs := [15]) (by kernel_rfl) (by simp) (held_cons rfl (fun K hK => ?_) AllReadyH.nil)
          rw [if_pos (by rfl)]
          go_simp
          refine (CUN.out _ (BX.out.trans (hHeld.mono BX.out.size))).mono ?_
          rintro e v2 ⟨uv, rfl, hu, bb⟩
          have HU := Lib.hid hu
          have hv2 := hHeld.trans (bb.mono hHeld.size)
          clear bb hHeld
          go_wp2_with fail
          refine hK.out _ _ hv2 (fun hHeld => ?_)
          clear hK K hv2
          refine wpAnyH_ready (rs := [21]) (by kernel_rfl) (by simp) (held_cons rfl (fun K hK => ?_) AllReadyH.nil)
          rw [if_pos (by rfl)]
          go_simp
          refine (RUN.out _ (BX.out.trans (hHeld.mono BX.out.size))).mono ?_
          rintro e v3 ⟨rv, rfl, hu, bb⟩
          have HU2 := Lib.hid hu
          have HU := Lib.hid (HU.out.below bb)
          have hv3 := hHeld.trans (bb.mono hHeld.size)
          clear bb hHeld
          go_wp2_with fail
          refine hK.out _ _ hv3 (fun hHeld => ?_)
          clear hK K hv3
          refine wpAnyH_ready (rs := [22]) (by kernel_rfl) (by simp) (held_cons rfl (fun K hK => ?_) AllReadyH.nil)
          rw [if_pos (by rfl)]
          go_simp
          refine (samehs_v (undR LF id) (undR LF id) uv rv _ HU.out HU2.out LLU.out true (by simp)).mono ?_
          rintro e v4 ⟨rfl, bb⟩
          have HU := Lib.hid (HU.out.below bb)
          have HU2 := Lib.hid (HU2.out.below bb)
          have hv4 := hHeld.trans (bb.mono hHeld.size)
          clear bb hHeld
          go_wp2_with fail
          refine hK.out _ _ hv4 (fun hHeld => ?_)
          clear hK K hv4
          refine held_take (i := 23) (v := (.bool false)) rfl (by kernel_rfl) (by kernel_rfl) (by kernel_rfl) (fun _ _ _ h => h) (Or.inl ⟨by rfl, fun w' _ => by go_simp⟩) hHeld ?_
          go_frame
          refine held_take (i := 24) (v := (.bool false)) rfl (by kernel_rfl) (by kernel_rfl) (by kernel_rfl) (fun _ _ _ h => h) (Or.inl ⟨by rfl, fun w' _ => by go_simp⟩) hHeld ?_
          go_frame
          refine wpAnyH_done (by kernel_rfl) ?_ _
          obtain ⟨wx, hwx⟩ : ∃ wx, wx = v4 := ⟨_, rfl⟩
          rw [← hwx] at  hHeld ⊢
          clear hwx
          have BIX := Lib.hid (BI.out.trans (hHeld.mono BI.out.size))
          have BX := Lib.hid (BX.out.trans (hHeld.mono BX.out.size))
          have RW := Lib.hid (range_below RW.out hHeld)
          clear hHeld F28 F30 BI
          go_wp2_with fail
          go_loopw [32] (fun vi wu => ∃ p : Nat, vi = .int .i64 (p : Int) ∧ p ≤ 3 ∧ Below wx.heap.size wx wu) (fun vi _ => 3 - (intOf vi).toNat)
          case atStart => exact ⟨0, rfl, by omega, Below.refl _ _⟩
          case round =>
            obtain ⟨p, rfl, hp3, hbp⟩ := hrel
            have BP := Lib.hid hbp
            have BX := Lib.hid (BX.out.trans (hbp.mono BX.out.size))
            have RW := Lib.hid (range_below RW.out hbp)
            clear hbp
            by_cases hpl : p < 3
            · have LI2x : (J p).length = 32 := LJ.out p
              obtain ⟨id2, hid2⟩ : ∃ id2, id2 = J p := ⟨_, rfl⟩
              rw [← hid2] at LI2x
              have RP : Hid (wr.rangeAt gI (p * 32) (id2.map bV)) := by rw [hid2]; exact range_below (RJ.out p hpl) (BIX.out.trans (BP.out.mono BIX.out.size))
              have LID2 := Lib.hid LI2x
              obtain ⟨x1, hx1⟩ : ∃ x1, x1 = findT LF id := ⟨_, rfl⟩
              obtain ⟨x2, hx2⟩ : ∃ x2, x2 = findT LF id2 := ⟨_, rfl⟩
              obtain ⟨sb, bk, onl, mt, LMT, LBK, CPA, RPA, CCO⟩ : ∃ (sb : Bool) (bk onl : List (List UInt8)) (mt : List UInt8), Hid (mt.length = 32) ∧ Hid (bk.length ≤ 1048576 ∧ onl.length ≤ 1048576) ∧
                  Hid (∀ W, Below w10.heap.size w10 W → Calls Tryz.prog 24 #[(.pointer (some ⟨b, 0, none⟩)), .agg (id.map bV).toArray, .agg (id2.map bV).toArray] W fun e w' => ∃ v1 v2, e = .returned (.tuple #[v1, v2, .bool sb]) ∧ HsAt w' v1 bk ∧ HsAt w' v2 onl ∧ Below W.heap.size W w') ∧
                  Hid (∀ W, Below w10.heap.size w10 W → Calls Tryz.prog 25 #[(.pointer (some ⟨a, 0, none⟩)), .agg (id.map bV).toArray, .agg (id2.map bV).toArray] W fun e w' => ∃ v1 v2, e = .returned (.tuple #[v1, v2, .agg (mt.map bV).toArray, .bool sb]) ∧ HsOwn W.heap.size w' v1 bk ∧ HsOwn W.heap.size w' v2 onl ∧ Below W.heap.size W w') ∧
                  Hid (∀ W, Below w10.heap.size w10 W → Calls Tryz.prog 26 #[(.pointer (some ⟨b, 0, none⟩)), .agg (id.map bV).toArray, .agg (id2.map bV).toArray] W fun e w' => e = .returned (.tuple #[.agg (mt.map bV).toArray, .bool sb]) ∧ Below W.heap.size W w') := by
                have A1 : ∀ W, Below w10.heap.size w10 W → Calls Tryz.prog 24 #[(.pointer (some ⟨b, 0, none⟩)), .agg (id.map bV).toArray, .agg (id2.map bV).toArray] W (CpPost LF x1 x2 W) := fun W hW => by
                  have h := ctpath_any W base b mb M id id2 (HT.out.below hW) TRM.out LID.out LID2.out
                  rw [ME.out, ← hx1, ← hx2] at h
                  exact h
                have A2 : ∀ W, Below w10.heap.size w10 W → Calls Tryz.prog 25 #[(.pointer (some ⟨a, 0, none⟩)), .agg (id.map bV).toArray, .agg (id2.map bV).toArray] W fun e w' => PaPost LF x1 x2 W e w' := fun W hW => by
                  have h := rpath_any W base a av2 LF id id2 (RT.out.below hW) TRF.out.ok TRF.out.down TRF.out.root LID.out LID2.out TRF.out.le
                  rw [← hx1, ← hx2] at h
                  exact h
                have A3 : ∀ W, Below w10.heap.size w10 W → Calls Tryz.prog 26 #[(.pointer (some ⟨b, 0, none⟩)), .agg (id.map bV).toArray, .agg (id2.map bV).toArray] W fun e w' => CoPost LF x1 x2 e ∧ Below W.heap.size W w' := fun W hW => by
                  have h := ctcommon_any W base b mb M id id2 (HT.out.below hW) TRM.out LID.out LID2.out
                  rw [ME.out, ← hx1, ← hx2] at h
                  exact h
                by_cases hneg : x1 < 0 ∨ x2 < 0
                · refine ⟨false, [], [], List.replicate 32 0, rfl, ⟨by decide, by decide⟩, fun W hW => (A1 W hW).mono ?_, fun W hW => (A2 W hW).mono ?_, fun W hW => (A3 W hW).mono ?_⟩
                  · rintro e w' ⟨bb, ⟨_, rfl⟩ | ⟨h1, h2, _⟩⟩
                    · exact ⟨_, _, rfl, HsAt.nil _ _ _, HsAt.nil _ _ _, bb⟩
                    · exfalso; omega
                  · rintro e w' ⟨bb, ⟨_, rfl⟩ | ⟨h1, h2, _⟩⟩
                    · exact ⟨_, _, rfl, HsOwn.nil _ _, HsOwn.nil _ _, bb⟩
                    · exfalso; omega
                  · rintro e w' ⟨⟨_, rfl⟩ | ⟨h1, h2, _⟩, bb⟩
                    · exact ⟨rfl, bb⟩
                    · exfalso; omega
                · obtain ⟨i1, hi1⟩ : ∃ i1 : Nat, x1 = (i1 : Int) := ⟨x1.toNat, by omega⟩
                  obtain ⟨i2, hi2⟩ : ∃ i2 : Nat, x2 = (i2 : Int) := ⟨x2.toNat, by omega⟩
                  have l1 : i1 < LF.length := by
                    rcases findT_cases LF id with ⟨e, _⟩ | ⟨q, c, e, h, _⟩
                    · omega
                    · have := (List.getElem?_eq_some_iff.1 h).1; omega
                  have l2 : i2 < LF.length := by
                    rcases findT_cases LF id2 with ⟨e, _⟩ | ⟨q, c, e, h, _⟩
                    · omega
                    · have := (List.getElem?_eq_some_iff.1 h).1; omega
                  have tp := tw_p TRF.out l1 l2
                  rw [hi1, hi2] at A1 A2 A3
                  have u1 : (upL LF (i1 : Int)).length ≤ 4097 := by rw [up_len]; exact chain_len TRF.out (List.getElem?_eq_getElem l1)
                  have u2 : (upL LF (i2 : Int)).length ≤ 4097 := by rw [up_len]; exact chain_len TRF.out (List.getElem?_eq_getElem l2)
                  refine ⟨true, backT LF i1 i2, onT LF i1 i2, meetT LF i1 i2, idAt_len TRF.out.ok _, ⟨?_, ?_⟩, fun W hW => (A1 W hW).mono ?_, fun W hW => (A2 W hW).mono ?_, fun W hW => (A3 W hW).mono ?_⟩
                  · unfold backT idsT; rw [List.length_map, List.length_take]; omega
                  · unfold onT idsT; rw [List.length_map, List.length_reverse, List.length_take]; omega
                  · rintro e w' ⟨bb, ⟨h, _⟩ | ⟨_, _, v1, v2, rfl, h1, h2⟩⟩
                    · exfalso; omega
                    · exact ⟨v1, v2, rfl, h1, h2, bb⟩
                  · rintro e w' ⟨bb, ⟨h, _⟩ | ⟨_, _, v1, v2, rfl, h1, h2⟩⟩
                    · exfalso; omega
                    · exact ⟨v1, v2, rfl, h1, h2, bb⟩
                  · rintro e w' ⟨⟨h, _⟩ | ⟨_, _, rfl⟩, bb⟩
                    · exfalso; omega
                    · exact ⟨rfl, bb⟩
              have SMM : Hid (∀ W, Calls Tryz.prog 20 #[.agg (mt.map bV).toArray, .agg (mt.map bV).toArray] W fun e w' => e = .returned (.bool true) ∧ Below W.heap.size W w') := fun W => by
                have h := same_any mt mt LMT.out LMT.out W
                rw [decide_eq_true rfl] at h
                exact h
              have SMT : Hid ((mt.map bV).toArray.size = 32) := by show _ = _; rw [List.size_toArray, List.length_map]; exact LMT.out
              obtain ⟨ci2, hci2⟩ : ∃ ci2, ci2 = id2.map bV := ⟨_, rfl⟩
              have LI2 : Hid (ci2.length = 32) := by show _ = _; rw [hci2, List.length_map]; exact LID2.out
              rw [← hci2] at RP CPA RPA CCO
              rw [← CIE.out] at CPA RPA CCO
              clear hci2 hx1 hx2 hid2 LI2x
              go_upto_region 35 with fail
              refine wp_region_held_drew (S := (fun w' => Below wr.heap.size wr w')) (by kernel_rfl) (Below.drew (Below.refl _ _)) (fun hHeld => ?_)
              generalize hwd : wr.drew = wd at  hHeld ⊢
              clear hwd
              refine held_take (i := 0) (v := (.pointer (some ⟨b, 0, none⟩))) rfl (by kernel_rfl) (by kernel_rfl) (by kernel_rfl) (fun _ _ _ h => h) (Or.inl ⟨by rfl, fun w' _ => by kernel_rfl⟩) hHeld ?_
              go_frame
              refine held_take (i := 1) (v := (.slice (some ⟨gI, 0, none⟩) 3 3)) rfl (by kernel_rfl) (by kernel_rfl) (by kernel_rfl) (fun _ _ _ h => h) (Or.inl ⟨by rfl, fun w' _ => by kernel_rfl⟩) hHeld ?_
              go_frame
              refine held_take (i := 2) (v := (.int .i64 (n : Int))) rfl (by kernel_rfl) (by kernel_rfl) (by kernel_rfl) (fun _ _ _ h => h) (Or.inl ⟨by rfl, fun w' _ => by kernel_rfl⟩) hHeld ?_
              go_frame
              refine held_take (i := 3) (v := (.pointer (some ⟨gI, n * 32, none⟩))) rfl (by kernel_rfl) (by kernel_rfl) (by kernel_rfl) (fun _ _ _ h => h) (Or.inl ⟨by rfl, fun w' _ => by go_simp⟩) hHeld ?_
              go_frame
              refine held_take (i := 4) (v := (.agg ci.toArray)) rfl (by kernel_rfl) (by kernel_rfl) (by kernel_rfl) (fun _ _ _ h => h) (Sha.yieldsIf_load_mid (by rfl) 25 (.tmp 244) rfl gI (n * 32) rfl ci _ (fun w' hw' => range_below RW.out hw') Tryz.underlying25 rfl (by rw [LI.out]; kernel_rfl)) hHeld ?_
              go_frame
              refine held_take (i := 5) (v := (.slice (some ⟨gI, 0, none⟩) 3 3)) rfl (by kernel_rfl) (by kernel_rfl) (by kernel_rfl) (fun _ _ _ h => h) (Or.inl ⟨by rfl, fun w' _ => by kernel_rfl⟩) hHeld ?_
              go_frame
              refine held_take (i := 6) (v := (.int .i64 (p : Int))) rfl (by kernel_rfl) (by kernel_rfl) (by kernel_rfl) (fun _ _ _ h => h) (Or.inl ⟨by rfl, fun w' _ => by kernel_rfl⟩) hHeld ?_
              go_frame
              refine held_take (i := 7) (v := (.pointer (some ⟨gI, p * 32, none⟩))) rfl (by kernel_rfl) (by kernel_rfl) (by kernel_rfl) (fun _ _ _ h => h) (Or.inl ⟨by rfl, fun w' _ => by go_simp⟩) hHeld ?_
              go_frame
              refine held_take (i := 8) (v := (.agg ci2.toArray)) rfl (by kernel_rfl) (by kernel_rfl) (by kernel_rfl) (fun _ _ _ h => h) (Sha.yieldsIf_load_mid (by rfl) 25 (.tmp 248) rfl gI (p * 32) rfl ci2 _ (fun w' hw' => range_below RP.out hw') Tryz.underlying25 rfl (by rw [LI2.out]; kernel_rfl)) hHeld ?_
              go_frame
              refine wpAnyH_ready (rs := [9]) (by kernel_rfl) (by simp) (held_cons rfl (fun K hK => ?_) AllReadyH.nil)
              go_simp
              refine (CPA.out _ (BX.out.trans (hHeld.mono BX.out.size))).mono ?_
              rintro e v1 ⟨pv1, pv2, rfl, hu1, hu2, bb⟩
              have HP1 := Lib.hid hu1
              have HP2 := Lib.hid hu2
              have hv1 := hHeld.trans (bb.mono hHeld.size)
              clear bb hHeld
              go_wp2_with fail
              refine hK.out _ _ hv1 (fun hHeld => ?_)
              clear hK K hv1
              refine held_take (i := 10) (v := (.tuple #[pv1, pv2, .bool sb])) rfl (by kernel_rfl) (by kernel_rfl) (by kernel_rfl) (fun _ _ _ h => h) (Or.inl ⟨by rfl, fun w' _ => by kernel_rfl⟩) hHeld ?_
              go_frame
              refine held_take (i := 11) (v := pv1) rfl (by kernel_rfl) (by kernel_rfl) (by kernel_rfl) (fun _ _ _ h => h) (Or.inl ⟨by rfl, fun w' _ => by kernel_rfl⟩) hHeld ?_
              go_frame
              refine held_take (i := 12) (v := pv2) rfl (by kernel_rfl) (by kernel_rfl) (by kernel_rfl) (fun _ _ _ h => h) (Or.inl ⟨by rfl, fun w' _ => by kernel_rfl⟩) hHeld ?_
              go_frame
              refine held_take (i := 13) (v := (.bool sb)) rfl (by kernel_rfl) (by kernel_rfl) (by kernel_rfl) (fun _ _ _ h => h) (Or.inl ⟨by rfl, fun w' _ => by kernel_rfl⟩) hHeld ?_
              go_frame
              refine held_take (i := 14) (v := pv1) rfl (by kernel_rfl) (by kernel_rfl) (by kernel_rfl) (fun _ _ _ h => h) (Or.inl ⟨by rfl, fun w' _ => by kernel_rfl⟩) hHeld ?_
              go_frame
              refine held_take (i := 15) (v := pv2) rfl (by kernel_rfl) (by kernel_rfl) (by kernel_rfl) (fun _ _ _ h => h) (Or.inl ⟨by rfl, fun w' _ => by kernel_rfl⟩) hHeld ?_
              go_frame
              refine held_take (i := 16) (v := (.bool sb)) rfl (by kernel_rfl) (by kernel_rfl) (by kernel_rfl) (fun _ _ _ h => h) (Or.inl ⟨by rfl, fun w' _ => by kernel_rfl⟩) hHeld ?_
              go_frame
              refine wpAnyH_done (by kernel_rfl) ?_ _
              obtain ⟨wy, hwy⟩ : ∃ wy, wy = v1 := ⟨_, rfl⟩
              rw [← hwy] at HP1 HP2 hHeld ⊢
              clear hwy
              have BX := Lib.hid (BX.out.trans (hHeld.mono BX.out.size))
              have BP := Lib.hid (BP.out.trans (hHeld.mono BP.out.size))
              have RW := Lib.hid (range_below RW.out hHeld)
              have RP := Lib.hid (range_below RP.out hHeld)
              clear hHeld
              go_upto_region 36 with fail
              refine wp_region_held_drew (S := (fun w' => Below wy.heap.size wy w')) (by kernel_rfl) (Below.drew (Below.refl _ _)) (fun hHeld => ?_)
              generalize hwd : wy.drew = wd at  hHeld ⊢
              clear hwd
              refine held_take (i := 0) (v := (.pointer (some ⟨a, 0, none⟩))) rfl (by kernel_rfl) (by kernel_rfl) (by kernel_rfl) (fun _ _ _ h => h) (Or.inl ⟨by rfl, fun w' _ => by kernel_rfl⟩) hHeld ?_
              go_frame
              refine held_take (i := 1) (v := (.slice (some ⟨gI, 0, none⟩) 3 3)) rfl (by kernel_rfl) (by kernel_rfl) (by kernel_rfl) (fun _ _ _ h => h) (Or.inl ⟨by rfl, fun w' _ => by kernel_rfl⟩) hHeld ?_
              go_frame
              refine held_take (i := 2) (v := (.int .i64 (n : Int))) rfl (by kernel_rfl) (by kernel_rfl) (by kernel_rfl) (fun _ _ _ h => h) (Or.inl ⟨by rfl, fun w' _ => by kernel_rfl⟩) hHeld ?_
              go_frame
              refine held_take (i := 3) (v := (.pointer (some ⟨gI, n * 32, none⟩))) rfl (by kernel_rfl) (by kernel_rfl) (by kernel_rfl) (fun _ _ _ h => h) (Or.inl ⟨by rfl, fun w' _ => by go_simp⟩) hHeld ?_
              go_frame
              refine held_take (i := 4) (v := (.agg ci.toArray)) rfl (by kernel_rfl) (by kernel_rfl) (by kernel_rfl) (fun _ _ _ h => h) (Sha.yieldsIf_load_mid (by rfl) 25 (.tmp 258) rfl gI (n * 32) rfl ci _ (fun w' hw' => range_below RW.out hw') Tryz.underlying25 rfl (by rw [LI.out]; kernel_rfl)) hHeld ?_
              go_frame
              refine held_take (i := 5) (v := (.slice (some ⟨gI, 0, none⟩) 3 3)) rfl (by kernel_rfl) (by kernel_rfl) (by kernel_rfl) (fun _ _ _ h => h) (Or.inl ⟨by rfl, fun w' _ => by kernel_rfl⟩) hHeld ?_
              go_frame
              refine held_take (i := 6) (v := (.int .i64 (p : Int))) rfl (by kernel_rfl) (by kernel_rfl) (by kernel_rfl) (fun _ _ _ h => h) (Or.inl ⟨by rfl, fun w' _ => by kernel_rfl⟩) hHeld ?_
              go_frame
              refine held_take (i := 7) (v := (.pointer (some ⟨gI, p * 32, none⟩))) rfl (by kernel_rfl) (by kernel_rfl) (by kernel_rfl) (fun _ _ _ h => h) (Or.inl ⟨by rfl, fun w' _ => by go_simp⟩) hHeld ?_
              go_frame
              refine held_take (i := 8) (v := (.agg ci2.toArray)) rfl (by kernel_rfl) (by kernel_rfl) (by kernel_rfl) (fun _ _ _ h => h) (Sha.yieldsIf_load_mid (by rfl) 25 (.tmp 262) rfl gI (p * 32) rfl ci2 _ (fun w' hw' => range_below RP.out hw') Tryz.underlying25 rfl (by rw [LI2.out]; kernel_rfl)) hHeld ?_
              go_frame
              refine wpAnyH_ready (rs := [9, 15]) (by kernel_rfl) (by simp) (held_cons rfl (fun K hK => ?_) (held_cons rfl (fun K hK => ?_) AllReadyH.nil))
              · skip
                go_simp
                refine (RPA.out _ (BX.out.trans (hHeld.mono BX.out.size))).mono ?_
                rintro e v1 ⟨rv1, rv2, rfl, hu1, hu2, bb⟩
                have HQ1 := Lib.hid hu1
                have HQ2 := Lib.hid hu2
                have hv1 := hHeld.trans (bb.mono hHeld.size)
                clear bb hHeld
                go_wp2_with fail
                refine hK.out _ _ hv1 (fun hHeld => ?_)
                clear hK K hv1
                refine held_take (i := 10) (v := (.tuple #[rv1, rv2, .agg (mt.map bV).toArray, .bool sb])) rfl (by kernel_rfl) (by kernel_rfl) (by kernel_rfl) (fun _ _ _ h => h) (Or.inl ⟨by rfl, fun w' _ => by kernel_rfl⟩) hHeld ?_
                go_frame
                refine held_take (i := 11) (v := rv1) rfl (by kernel_rfl) (by kernel_rfl) (by kernel_rfl) (fun _ _ _ h => h) (Or.inl ⟨by rfl, fun w' _ => by kernel_rfl⟩) hHeld ?_
                go_frame
                refine held_take (i := 12) (v := rv2) rfl (by kernel_rfl) (by kernel_rfl) (by kernel_rfl) (fun _ _ _ h => h) (Or.inl ⟨by rfl, fun w' _ => by kernel_rfl⟩) hHeld ?_
                go_frame
                refine held_take (i := 13) (v := (.agg (mt.map bV).toArray)) rfl (by kernel_rfl) (by kernel_rfl) (by kernel_rfl) (fun _ _ _ h => h) (Or.inl ⟨by rfl, fun w' _ => by kernel_rfl⟩) hHeld ?_
                go_frame
                refine held_take (i := 14) (v := (.bool sb)) rfl (by kernel_rfl) (by kernel_rfl) (by kernel_rfl) (fun _ _ _ h => h) (Or.inl ⟨by rfl, fun w' _ => by kernel_rfl⟩) hHeld ?_
                go_frame
                refine wpAnyH_ready (rs := [15]) (by kernel_rfl) (by simp) (held_cons rfl (fun K hK => ?_) AllReadyH.nil)
                go_simp
                have nf := heap_alloc_new v1 (.cells (List.replicate 32 (bV 0)).toArray 25 (0, 0))
                have bb := (Below.refl v1.heap.size v1).alloc (Nat.le_refl _) (.cells (List.replicate 32 (bV 0)).toArray 25 (0, 0))
                obtain ⟨gv2, hgv2⟩ : ∃ g, g = v1.heap.size := ⟨_, rfl⟩
                have GF38 : Hid (wy.heap.size ≤ gv2) := by show _ ≤ _; rw [hgv2]; exact hHeld.size
                have NQ1 : Hid (rv1.ownBlock ≠ some gv2) := fun h => by have h1 := (HQ1.out.1.lt _ h).2; omega
                have NQ2 : Hid (rv2.ownBlock ≠ some gv2) := fun h => by have h1 := (HQ2.out.1.lt _ h).2; omega
                generalize hqv2 : World.alloc _ _ = v2
                have ev2 : v1.alloc (.cells (List.replicate 32 (bV 0)).toArray 25 (0, 0)) = v2 := hqv2
                rw [ev2] at nf bb
                rw [← hgv2] at nf ⊢
                have F38 := Lib.hid nf
                have HQ1 := Lib.hid (HQ1.out.keep bb)
                have HQ2 := Lib.hid (HQ2.out.keep bb)
                have hv2 := hHeld.trans (bb.mono hHeld.size)
                clear nf bb hqv2 ev2 hgv2 hHeld
                refine hK.out _ _ hv2 (fun hHeld => ?_)
                clear hK K hv2
                refine held_take (i := 16) (v := rv1) rfl (by kernel_rfl) (by kernel_rfl) (by kernel_rfl) (fun _ _ _ h => h) (Or.inl ⟨by rfl, fun w' _ => by kernel_rfl⟩) hHeld ?_
                go_frame
                refine held_take (i := 17) (v := rv2) rfl (by kernel_rfl) (by kernel_rfl) (by kernel_rfl) (fun _ _ _ h => h) (Or.inl ⟨by rfl, fun w' _ => by kernel_rfl⟩) hHeld ?_
                go_frame
                refine wpAnyH_ready (rs := [18]) (by kernel_rfl) (by simp) (held_cons rfl (fun K hK => ?_) AllReadyH.nil)
                rw [if_pos (by rfl)]
                refine wp_store_whole 25 (.tmp 38) (.tmp 267) rfl gv2 (List.replicate 32 (bV 0)) (mt.map bV) 25 rfl rfl (by rw [List.length_replicate, List.length_map, LMT.out]) F38.out (by rw [List.length_map, LMT.out]; kernel_rfl) (bV_one _) ?_
                intro v3 q1 q2
                have F38 := Lib.hid q1
                have HQ1 := Lib.hid (HQ1.out.kept q2 (.inr NQ1.out))
                have HQ2 := Lib.hid (HQ2.out.kept q2 (.inr NQ2.out))
                have hv3 := hHeld.grown q2 hHeld.size (fun k hk => by cases hk; exact GF38.out)
                clear q1 q2 hHeld
                go_frame
                refine hK.out _ _ hv3 (fun hHeld => ?_)
                clear hK K hv3
                refine held_take (i := 19) (v := (.bool sb)) rfl (by kernel_rfl) (by kernel_rfl) (by kernel_rfl) (fun _ _ _ h => h) (Or.inl ⟨by rfl, fun w' _ => by kernel_rfl⟩) hHeld ?_
                go_frame
                refine wpAnyH_done (by kernel_rfl) ?_ _
                obtain ⟨wz, hwz⟩ : ∃ wz, wz = v3 := ⟨_, rfl⟩
                rw [← hwz] at F38 HQ1 HQ2 hHeld ⊢
                clear hwz
                obtain ⟨g38, hg38⟩ : ∃ g, g = gv2 := ⟨_, rfl⟩
                rw [← hg38] at F38 ⊢
                clear hg38
                have HQ1 := Lib.hid HQ1.out.at
                have HQ2 := Lib.hid HQ2.out.at
                have BX := Lib.hid (BX.out.trans (hHeld.mono BX.out.size))
                have BP := Lib.hid (BP.out.trans (hHeld.mono BP.out.size))
                have RW := Lib.hid (range_below RW.out hHeld)
                have RP := Lib.hid (range_below RP.out hHeld)
                have HP1 := Lib.hid (HP1.out.below hHeld)
                have HP2 := Lib.hid (HP2.out.below hHeld)
                clear hHeld
                go_upto_region 37 with fail
                refine wp_region_held_drew (S := (fun w' => Below wz.heap.size wz w')) (by kernel_rfl) (Below.drew (Below.refl _ _)) (fun hHeld => ?_)
                generalize hwd : wz.drew = wd at  hHeld ⊢
                clear hwd
                refine held_take (i := 0) (v := (.pointer (some ⟨b, 0, none⟩))) rfl (by kernel_rfl) (by kernel_rfl) (by kernel_rfl) (fun _ _ _ h => h) (Or.inl ⟨by rfl, fun w' _ => by kernel_rfl⟩) hHeld ?_
                go_frame
                refine held_take (i := 1) (v := (.slice (some ⟨gI, 0, none⟩) 3 3)) rfl (by kernel_rfl) (by kernel_rfl) (by kernel_rfl) (fun _ _ _ h => h) (Or.inl ⟨by rfl, fun w' _ => by kernel_rfl⟩) hHeld ?_
                go_frame
                refine held_take (i := 2) (v := (.int .i64 (n : Int))) rfl (by kernel_rfl) (by kernel_rfl) (by kernel_rfl) (fun _ _ _ h => h) (Or.inl ⟨by rfl, fun w' _ => by kernel_rfl⟩) hHeld ?_
                go_frame
                refine held_take (i := 3) (v := (.pointer (some ⟨gI, n * 32, none⟩))) rfl (by kernel_rfl) (by kernel_rfl) (by kernel_rfl) (fun _ _ _ h => h) (Or.inl ⟨by rfl, fun w' _ => by go_simp⟩) hHeld ?_
                go_frame
                refine held_take (i := 4) (v := (.agg ci.toArray)) rfl (by kernel_rfl) (by kernel_rfl) (by kernel_rfl) (fun _ _ _ h => h) (Sha.yieldsIf_load_mid (by rfl) 25 (.tmp 273) rfl gI (n * 32) rfl ci _ (fun w' hw' => range_below RW.out hw') Tryz.underlying25 rfl (by rw [LI.out]; kernel_rfl)) hHeld ?_
                go_frame
                refine held_take (i := 5) (v := (.slice (some ⟨gI, 0, none⟩) 3 3)) rfl (by kernel_rfl) (by kernel_rfl) (by kernel_rfl) (fun _ _ _ h => h) (Or.inl ⟨by rfl, fun w' _ => by kernel_rfl⟩) hHeld ?_
                go_frame
                refine held_take (i := 6) (v := (.int .i64 (p : Int))) rfl (by kernel_rfl) (by kernel_rfl) (by kernel_rfl) (fun _ _ _ h => h) (Or.inl ⟨by rfl, fun w' _ => by kernel_rfl⟩) hHeld ?_
                go_frame
                refine held_take (i := 7) (v := (.pointer (some ⟨gI, p * 32, none⟩))) rfl (by kernel_rfl) (by kernel_rfl) (by kernel_rfl) (fun _ _ _ h => h) (Or.inl ⟨by rfl, fun w' _ => by go_simp⟩) hHeld ?_
                go_frame
                refine held_take (i := 8) (v := (.agg ci2.toArray)) rfl (by kernel_rfl) (by kernel_rfl) (by kernel_rfl) (fun _ _ _ h => h) (Sha.yieldsIf_load_mid (by rfl) 25 (.tmp 277) rfl gI (p * 32) rfl ci2 _ (fun w' hw' => range_below RP.out hw') Tryz.underlying25 rfl (by rw [LI2.out]; kernel_rfl)) hHeld ?_
                go_frame
                refine wpAnyH_ready (rs := [9, 13]) (by kernel_rfl) (by simp) (held_cons rfl (fun K hK => ?_) (held_cons rfl (fun K hK => ?_) AllReadyH.nil))
                · skip
                  go_simp
                  refine (CCO.out _ (BX.out.trans (hHeld.mono BX.out.size))).mono ?_
                  rintro e v1 ⟨rfl, bb⟩
                  have hv1 := hHeld.trans (bb.mono hHeld.size)
                  clear bb hHeld
                  go_wp2_with fail
                  refine hK.out _ _ hv1 (fun hHeld => ?_)
                  clear hK K hv1
                  refine held_take (i := 10) (v := (.tuple #[.agg (mt.map bV).toArray, .bool sb])) rfl (by kernel_rfl) (by kernel_rfl) (by kernel_rfl) (fun _ _ _ h => h) (Or.inl ⟨by rfl, fun w' _ => by kernel_rfl⟩) hHeld ?_
                  go_frame
                  refine held_take (i := 11) (v := (.agg (mt.map bV).toArray)) rfl (by kernel_rfl) (by kernel_rfl) (by kernel_rfl) (fun _ _ _ h => h) (Or.inl ⟨by rfl, fun w' _ => by kernel_rfl⟩) hHeld ?_
                  go_frame
                  refine held_take (i := 12) (v := (.bool sb)) rfl (by kernel_rfl) (by kernel_rfl) (by kernel_rfl) (fun _ _ _ h => h) (Or.inl ⟨by rfl, fun w' _ => by kernel_rfl⟩) hHeld ?_
                  go_frame
                  refine wpAnyH_ready (rs := [13]) (by kernel_rfl) (by simp) (held_cons rfl (fun K hK => ?_) AllReadyH.nil)
                  go_simp
                  have nf := heap_alloc_new v1 (.cells (List.replicate 32 (bV 0)).toArray 25 (0, 0))
                  have bb := (Below.refl v1.heap.size v1).alloc (Nat.le_refl _) (.cells (List.replicate 32 (bV 0)).toArray 25 (0, 0))
                  obtain ⟨gv2, hgv2⟩ : ∃ g, g = v1.heap.size := ⟨_, rfl⟩
                  have GF40 : Hid (wz.heap.size ≤ gv2) := by show _ ≤ _; rw [hgv2]; exact hHeld.size
                  generalize hqv2 : World.alloc _ _ = v2
                  have ev2 : v1.alloc (.cells (List.replicate 32 (bV 0)).toArray 25 (0, 0)) = v2 := hqv2
                  rw [ev2] at nf bb
                  rw [← hgv2] at nf ⊢
                  have F40 := Lib.hid nf
                  have hv2 := hHeld.trans (bb.mono hHeld.size)
                  clear nf bb hqv2 ev2 hgv2 hHeld
                  refine hK.out _ _ hv2 (fun hHeld => ?_)
                  clear hK K hv2
                  refine wpAnyH_ready (rs := [14]) (by kernel_rfl) (by simp) (held_cons rfl (fun K hK => ?_) AllReadyH.nil)
                  rw [if_pos (by rfl)]
                  refine wp_store_whole 25 (.tmp 40) (.tmp 280) rfl gv2 (List.replicate 32 (bV 0)) (mt.map bV) 25 rfl rfl (by rw [List.length_replicate, List.length_map, LMT.out]) F40.out (by rw [List.length_map, LMT.out]; kernel_rfl) (bV_one _) ?_
                  intro v3 q1 q2
                  have F40 := Lib.hid q1
                  have hv3 := hHeld.grown q2 hHeld.size (fun k hk => by cases hk; exact GF40.out)
                  clear q1 q2 hHeld
                  go_frame
                  refine hK.out _ _ hv3 (fun hHeld => ?_)
                  clear hK K hv3
                  refine held_take (i := 15) (v := (.bool sb)) rfl (by kernel_rfl) (by kernel_rfl) (by kernel_rfl) (fun _ _ _ h => h) (Or.inl ⟨by rfl, fun w' _ => by kernel_rfl⟩) hHeld ?_
                  go_frame
                  refine wpAnyH_done (by kernel_rfl) ?_ _
                  obtain ⟨wq, hwq⟩ : ∃ wq, wq = v3 := ⟨_, rfl⟩
                  rw [← hwq] at F40 hHeld ⊢
                  clear hwq
                  obtain ⟨g40, hg40⟩ : ∃ g, g = gv2 := ⟨_, rfl⟩
                  rw [← hg40] at F40 ⊢
                  clear hg40
                  have BX := Lib.hid (BX.out.trans (hHeld.mono BX.out.size))
                  have BP := Lib.hid (BP.out.trans (hHeld.mono BP.out.size))
                  have RW := Lib.hid (range_below RW.out hHeld)
                  have RP := Lib.hid (range_below RP.out hHeld)
                  have F38 := Lib.hid (row_below F38.out hHeld)
                  have HP1 := Lib.hid (HP1.out.below hHeld)
                  have HP2 := Lib.hid (HP2.out.below hHeld)
                  have HQ1 := Lib.hid (HQ1.out.below hHeld)
                  have HQ2 := Lib.hid (HQ2.out.below hHeld)
                  clear hHeld
                  go_wp2_with ((with_reducible show wpList _ _ _ _ _ _); first | (refine wpList_load_rowG 25 (.tmp 40) rfl g40 rfl 25 (mt.map bV).toArray (0, 0) _ F40.out Tryz.underlying25 rfl (by rw [SMT.out]; kernel_rfl) rfl ?_; go_frame) | (refine wpList_load_rowG 25 (.tmp 38) rfl g38 rfl 25 (mt.map bV).toArray (0, 0) _ F38.out Tryz.underlying25 rfl (by rw [SMT.out]; kernel_rfl) rfl ?_; go_frame))
                  refine (SMM.out _).mono ?_
                  rintro e wq1 ⟨rfl, bb⟩
                  have HS1 := samehs_v bk bk pv1 rv1 wq1 (HP1.out.below bb) (HQ1.out.below bb) LBK.out.1 true (by simp)
                  have HP2 := Lib.hid (HP2.out.below bb)
                  have HQ2 := Lib.hid (HQ2.out.below bb)
                  have BP := Lib.hid (BP.out.trans (bb.mono BP.out.size))
                  clear bb HP1 HQ1 F38 F40
                  go_wp2_with fail
                  refine HS1.mono ?_
                  rintro e wq2 ⟨rfl, bb⟩
                  have HS2 := samehs_v onl onl pv2 rv2 wq2 (HP2.out.below bb) (HQ2.out.below bb) LBK.out.2 true (by simp)
                  have BP := Lib.hid (BP.out.trans (bb.mono BP.out.size))
                  clear bb HP2 HQ2 HS1
                  go_wp2_with fail
                  refine HS2.mono ?_
                  rintro e wq3 ⟨rfl, bb⟩
                  have BP := Lib.hid (BP.out.trans (bb.mono BP.out.size))
                  clear bb HS2
                  go_wp2_with fail
                  go_roundw
                  case rel => exact ⟨p + 1, by go_num, by omega, BP.out⟩
                  case measure => simp [intOf]; omega
                · skip
                  go_simp
                  have nf := heap_alloc_new wd (.cells (List.replicate 32 (bV 0)).toArray 25 (0, 0))
                  have bb := (Below.refl wd.heap.size wd).alloc (Nat.le_refl _) (.cells (List.replicate 32 (bV 0)).toArray 25 (0, 0))
                  obtain ⟨gv4, hgv4⟩ : ∃ g, g = wd.heap.size := ⟨_, rfl⟩
                  have GF40 : Hid (wz.heap.size ≤ gv4) := by show _ ≤ _; rw [hgv4]; exact hHeld.size
                  generalize hqv4 : World.alloc _ _ = v4
                  have ev4 : wd.alloc (.cells (List.replicate 32 (bV 0)).toArray 25 (0, 0)) = v4 := hqv4
                  rw [ev4] at nf bb
                  rw [← hgv4] at nf ⊢
                  have F40 := Lib.hid nf
                  have hv4 := hHeld.trans (bb.mono hHeld.size)
                  clear nf bb hqv4 ev4 hgv4 hHeld
                  refine hK.out _ _ hv4 (fun hHeld => ?_)
                  clear hK K hv4
                  refine wpAnyH_ready (rs := [9]) (by kernel_rfl) (by simp) (held_cons rfl (fun K hK => ?_) AllReadyH.nil)
                  go_simp
                  refine (CCO.out _ (BX.out.trans (hHeld.mono BX.out.size))).mono ?_
                  rintro e v5 ⟨rfl, bb⟩
                  have F40 := Lib.hid (row_below F40.out bb)
                  have hv5 := hHeld.trans (bb.mono hHeld.size)
                  clear bb hHeld
                  go_wp2_with fail
                  refine hK.out _ _ hv5 (fun hHeld => ?_)
                  clear hK K hv5
                  refine held_take (i := 10) (v := (.tuple #[.agg (mt.map bV).toArray, .bool sb])) rfl (by kernel_rfl) (by kernel_rfl) (by kernel_rfl) (fun _ _ _ h => h) (Or.inl ⟨by rfl, fun w' _ => by kernel_rfl⟩) hHeld ?_
                  go_frame
                  refine held_take (i := 11) (v := (.agg (mt.map bV).toArray)) rfl (by kernel_rfl) (by kernel_rfl) (by kernel_rfl) (fun _ _ _ h => h) (Or.inl ⟨by rfl, fun w' _ => by kernel_rfl⟩) hHeld ?_
                  go_frame
                  refine held_take (i := 12) (v := (.bool sb)) rfl (by kernel_rfl) (by kernel_rfl) (by kernel_rfl) (fun _ _ _ h => h) (Or.inl ⟨by rfl, fun w' _ => by kernel_rfl⟩) hHeld ?_
                  go_frame
                  refine wpAnyH_ready (rs := [14]) (by kernel_rfl) (by simp) (held_cons rfl (fun K hK => ?_) AllReadyH.nil)
                  rw [if_pos (by rfl)]
                  refine wp_store_whole 25 (.tmp 40) (.tmp 280) rfl gv4 (List.replicate 32 (bV 0)) (mt.map bV) 25 rfl rfl (by rw [List.length_replicate, List.length_map, LMT.out]) F40.out (by rw [List.length_map, LMT.out]; kernel_rfl) (bV_one _) ?_
                  intro v6 q1 q2
                  have F40 := Lib.hid q1
                  have hv6 := hHeld.grown q2 hHeld.size (fun k hk => by cases hk; exact GF40.out)
                  clear q1 q2 hHeld
                  go_frame
                  refine hK.out _ _ hv6 (fun hHeld => ?_)
                  clear hK K hv6
                  refine held_take (i := 15) (v := (.bool sb)) rfl (by kernel_rfl) (by kernel_rfl) (by kernel_rfl) (fun _ _ _ h => h) (Or.inl ⟨by rfl, fun w' _ => by kernel_rfl⟩) hHeld ?_
                  go_frame
                  refine wpAnyH_done (by kernel_rfl) ?_ _
                  obtain ⟨wq, hwq⟩ : ∃ wq, wq = v6 := ⟨_, rfl⟩
                  rw [← hwq] at F40 hHeld ⊢
                  clear hwq
                  obtain ⟨g40, hg40⟩ : ∃ g, g = gv4 := ⟨_, rfl⟩
                  rw [← hg40] at F40 ⊢
                  clear hg40
                  have BX := Lib.hid (BX.out.trans (hHeld.mono BX.out.size))
                  have BP := Lib.hid (BP.out.trans (hHeld.mono BP.out.size))
                  have RW := Lib.hid (range_below RW.out hHeld)
                  have RP := Lib.hid (range_below RP.out hHeld)
                  have F38 := Lib.hid (row_below F38.out hHeld)
                  have HP1 := Lib.hid (HP1.out.below hHeld)
                  have HP2 := Lib.hid (HP2.out.below hHeld)
                  have HQ1 := Lib.hid (HQ1.out.below hHeld)
                  have HQ2 := Lib.hid (HQ2.out.below hHeld)
                  clear hHeld
                  go_wp2_with ((with_reducible show wpList _ _ _ _ _ _); first | (refine wpList_load_rowG 25 (.tmp 40) rfl g40 rfl 25 (mt.map bV).toArray (0, 0) _ F40.out Tryz.underlying25 rfl (by rw [SMT.out]; kernel_rfl) rfl ?_; go_frame) | (refine wpList_load_rowG 25 (.tmp 38) rfl g38 rfl 25 (mt.map bV).toArray (0, 0) _ F38.out Tryz.underlying25 rfl (by rw [SMT.out]; kernel_rfl) rfl ?_; go_frame))
                  refine (SMM.out _).mono ?_
                  rintro e wq1 ⟨rfl, bb⟩
                  have HS1 := samehs_v bk bk pv1 rv1 wq1 (HP1.out.below bb) (HQ1.out.below bb) LBK.out.1 true (by simp)
                  have HP2 := Lib.hid (HP2.out.below bb)
                  have HQ2 := Lib.hid (HQ2.out.below bb)
                  have BP := Lib.hid (BP.out.trans (bb.mono BP.out.size))
                  clear bb HP1 HQ1 F38 F40
                  go_wp2_with fail
                  refine HS1.mono ?_
                  rintro e wq2 ⟨rfl, bb⟩
                  have HS2 := samehs_v onl onl pv2 rv2 wq2 (HP2.out.below bb) (HQ2.out.below bb) LBK.out.2 true (by simp)
                  have BP := Lib.hid (BP.out.trans (bb.mono BP.out.size))
                  clear bb HP2 HQ2 HS1
                  go_wp2_with fail
                  refine HS2.mono ?_
                  rintro e wq3 ⟨rfl, bb⟩
                  have BP := Lib.hid (BP.out.trans (bb.mono BP.out.size))
                  clear bb HS2
                  go_wp2_with fail
                  go_roundw
                  case rel => exact ⟨p + 1, by go_num, by omega, BP.out⟩
                  case measure => simp [intOf]; omega
              · skip
                go_simp
                have nf := heap_alloc_new wd (.cells (List.replicate 32 (bV 0)).toArray 25 (0, 0))
                have bb := (Below.refl wd.heap.size wd).alloc (Nat.le_refl _) (.cells (List.replicate 32 (bV 0)).toArray 25 (0, 0))
                obtain ⟨gv4, hgv4⟩ : ∃ g, g = wd.heap.size := ⟨_, rfl⟩
                have GF38 : Hid (wy.heap.size ≤ gv4) := by show _ ≤ _; rw [hgv4]; exact hHeld.size
                generalize hqv4 : World.alloc _ _ = v4
                have ev4 : wd.alloc (.cells (List.replicate 32 (bV 0)).toArray 25 (0, 0)) = v4 := hqv4
                rw [ev4] at nf bb
                rw [← hgv4] at nf ⊢
                have F38 := Lib.hid nf
                have hv4 := hHeld.trans (bb.mono hHeld.size)
                clear nf bb hqv4 ev4 hgv4 hHeld
                refine hK.out _ _ hv4 (fun hHeld => ?_)
                clear hK K hv4
                refine wpAnyH_ready (rs := [9]) (by kernel_rfl) (by simp) (held_cons rfl (fun K hK => ?_) AllReadyH.nil)
                go_simp
                refine (RPA.out _ (BX.out.trans (hHeld.mono BX.out.size))).mono ?_
                rintro e v5 ⟨rv1, rv2, rfl, hu1, hu2, bb⟩
                have NQ1 : Hid (rv1.ownBlock ≠ some gv4) := fun h => by have h1 := (hu1.1.lt _ h).1; have h2 := (Array.getElem?_eq_some_iff.1 F38.out).1; omega
                have NQ2 : Hid (rv2.ownBlock ≠ some gv4) := fun h => by have h1 := (hu2.1.lt _ h).1; have h2 := (Array.getElem?_eq_some_iff.1 F38.out).1; omega
                have HQ1 := Lib.hid hu1
                have HQ2 := Lib.hid hu2
                have F38 := Lib.hid (row_below F38.out bb)
                have hv5 := hHeld.trans (bb.mono hHeld.size)
                clear bb hHeld
                go_wp2_with fail
                refine hK.out _ _ hv5 (fun hHeld => ?_)
                clear hK K hv5
                refine held_take (i := 10) (v := (.tuple #[rv1, rv2, .agg (mt.map bV).toArray, .bool sb])) rfl (by kernel_rfl) (by kernel_rfl) (by kernel_rfl) (fun _ _ _ h => h) (Or.inl ⟨by rfl, fun w' _ => by kernel_rfl⟩) hHeld ?_
                go_frame
                refine held_take (i := 11) (v := rv1) rfl (by kernel_rfl) (by kernel_rfl) (by kernel_rfl) (fun _ _ _ h => h) (Or.inl ⟨by rfl, fun w' _ => by kernel_rfl⟩) hHeld ?_
                go_frame
                refine held_take (i := 12) (v := rv2) rfl (by kernel_rfl) (by kernel_rfl) (by kernel_rfl) (fun _ _ _ h => h) (Or.inl ⟨by rfl, fun w' _ => by kernel_rfl⟩) hHeld ?_
                go_frame
                refine held_take (i := 13) (v := (.agg (mt.map bV).toArray)) rfl (by kernel_rfl) (by kernel_rfl) (by kernel_rfl) (fun _ _ _ h => h) (Or.inl ⟨by rfl, fun w' _ => by kernel_rfl⟩) hHeld ?_
                go_frame
                refine held_take (i := 14) (v := (.bool sb)) rfl (by kernel_rfl) (by kernel_rfl) (by kernel_rfl) (fun _ _ _ h => h) (Or.inl ⟨by rfl, fun w' _ => by kernel_rfl⟩) hHeld ?_
                go_frame
                refine held_take (i := 16) (v := rv1) rfl (by kernel_rfl) (by kernel_rfl) (by kernel_rfl) (fun _ _ _ h => h) (Or.inl ⟨by rfl, fun w' _ => by kernel_rfl⟩) hHeld ?_
                go_frame
                refine held_take (i := 17) (v := rv2) rfl (by kernel_rfl) (by kernel_rfl) (by kernel_rfl) (fun _ _ _ h => h) (Or.inl ⟨by rfl, fun w' _ => by kernel_rfl⟩) hHeld ?_
                go_frame
                refine wpAnyH_ready (rs := [18]) (by kernel_rfl) (by simp) (held_cons rfl (fun K hK => ?_) AllReadyH.nil)
                rw [if_pos (by rfl)]
                refine wp_store_whole 25 (.tmp 38) (.tmp 267) rfl gv4 (List.replicate 32 (bV 0)) (mt.map bV) 25 rfl rfl (by rw [List.length_replicate, List.length_map, LMT.out]) F38.out (by rw [List.length_map, LMT.out]; kernel_rfl) (bV_one _) ?_
                intro v6 q1 q2
                have F38 := Lib.hid q1
                have HQ1 := Lib.hid (HQ1.out.kept q2 (.inr NQ1.out))
                have HQ2 := Lib.hid (HQ2.out.kept q2 (.inr NQ2.out))
                have hv6 := hHeld.grown q2 hHeld.size (fun k hk => by cases hk; exact GF38.out)
                clear q1 q2 hHeld
                go_frame
                refine hK.out _ _ hv6 (fun hHeld => ?_)
                clear hK K hv6
                refine held_take (i := 19) (v := (.bool sb)) rfl (by kernel_rfl) (by kernel_rfl) (by kernel_rfl) (fun _ _ _ h => h) (Or.inl ⟨by rfl, fun w' _ => by kernel_rfl⟩) hHeld ?_
                go_frame
                refine wpAnyH_done (by kernel_rfl) ?_ _
                obtain ⟨wz, hwz⟩ : ∃ wz, wz = v6 := ⟨_, rfl⟩
                rw [← hwz] at F38 HQ1 HQ2 hHeld ⊢
                clear hwz
                obtain ⟨g38, hg38⟩ : ∃ g, g = gv4 := ⟨_, rfl⟩
                rw [← hg38] at F38 ⊢
                clear hg38
                have HQ1 := Lib.hid HQ1.out.at
                have HQ2 := Lib.hid HQ2.out.at
                have BX := Lib.hid (BX.out.trans (hHeld.mono BX.out.size))
                have BP := Lib.hid (BP.out.trans (hHeld.mono BP.out.size))
                have RW := Lib.hid (range_below RW.out hHeld)
                have RP := Lib.hid (range_below RP.out hHeld)
                have HP1 := Lib.hid (HP1.out.below hHeld)
                have HP2 := Lib.hid (HP2.out.below hHeld)
                clear hHeld
                go_upto_region 37 with fail
                refine wp_region_held_drew (S := (fun w' => Below wz.heap.size wz w')) (by kernel_rfl) (Below.drew (Below.refl _ _)) (fun hHeld => ?_)
                generalize hwd : wz.drew = wd at  hHeld ⊢
                clear hwd
                refine held_take (i := 0) (v := (.pointer (some ⟨b, 0, none⟩))) rfl (by kernel_rfl) (by kernel_rfl) (by kernel_rfl) (fun _ _ _ h => h) (Or.inl ⟨by rfl, fun w' _ => by kernel_rfl⟩) hHeld ?_
                go_frame
                refine held_take (i := 1) (v := (.slice (some ⟨gI, 0, none⟩) 3 3)) rfl (by kernel_rfl) (by kernel_rfl) (by kernel_rfl) (fun _ _ _ h => h) (Or.inl ⟨by rfl, fun w' _ => by kernel_rfl⟩) hHeld ?_
                go_frame
                refine held_take (i := 2) (v := (.int .i64 (n : Int))) rfl (by kernel_rfl) (by kernel_rfl) (by kernel_rfl) (fun _ _ _ h => h) (Or.inl ⟨by rfl, fun w' _ => by kernel_rfl⟩) hHeld ?_
                go_frame
                refine held_take (i := 3) (v := (.pointer (some ⟨gI, n * 32, none⟩))) rfl (by kernel_rfl) (by kernel_rfl) (by kernel_rfl) (fun _ _ _ h => h) (Or.inl ⟨by rfl, fun w' _ => by go_simp⟩) hHeld ?_
                go_frame
                refine held_take (i := 4) (v := (.agg ci.toArray)) rfl (by kernel_rfl) (by kernel_rfl) (by kernel_rfl) (fun _ _ _ h => h) (Sha.yieldsIf_load_mid (by rfl) 25 (.tmp 273) rfl gI (n * 32) rfl ci _ (fun w' hw' => range_below RW.out hw') Tryz.underlying25 rfl (by rw [LI.out]; kernel_rfl)) hHeld ?_
                go_frame
                refine held_take (i := 5) (v := (.slice (some ⟨gI, 0, none⟩) 3 3)) rfl (by kernel_rfl) (by kernel_rfl) (by kernel_rfl) (fun _ _ _ h => h) (Or.inl ⟨by rfl, fun w' _ => by kernel_rfl⟩) hHeld ?_
                go_frame
                refine held_take (i := 6) (v := (.int .i64 (p : Int))) rfl (by kernel_rfl) (by kernel_rfl) (by kernel_rfl) (fun _ _ _ h => h) (Or.inl ⟨by rfl, fun w' _ => by kernel_rfl⟩) hHeld ?_
                go_frame
                refine held_take (i := 7) (v := (.pointer (some ⟨gI, p * 32, none⟩))) rfl (by kernel_rfl) (by kernel_rfl) (by kernel_rfl) (fun _ _ _ h => h) (Or.inl ⟨by rfl, fun w' _ => by go_simp⟩) hHeld ?_
                go_frame
                refine held_take (i := 8) (v := (.agg ci2.toArray)) rfl (by kernel_rfl) (by kernel_rfl) (by kernel_rfl) (fun _ _ _ h => h) (Sha.yieldsIf_load_mid (by rfl) 25 (.tmp 277) rfl gI (p * 32) rfl ci2 _ (fun w' hw' => range_below RP.out hw') Tryz.underlying25 rfl (by rw [LI2.out]; kernel_rfl)) hHeld ?_
                go_frame
                refine wpAnyH_ready (rs := [9, 13]) (by kernel_rfl) (by simp) (held_cons rfl (fun K hK => ?_) (held_cons rfl (fun K hK => ?_) AllReadyH.nil))
                · skip
                  go_simp
                  refine (CCO.out _ (BX.out.trans (hHeld.mono BX.out.size))).mono ?_
                  rintro e v7 ⟨rfl, bb⟩
                  have hv7 := hHeld.trans (bb.mono hHeld.size)
                  clear bb hHeld
                  go_wp2_with fail
                  refine hK.out _ _ hv7 (fun hHeld => ?_)
                  clear hK K hv7
                  refine held_take (i := 10) (v := (.tuple #[.agg (mt.map bV).toArray, .bool sb])) rfl (by kernel_rfl) (by kernel_rfl) (by kernel_rfl) (fun _ _ _ h => h) (Or.inl ⟨by rfl, fun w' _ => by kernel_rfl⟩) hHeld ?_
                  go_frame
                  refine held_take (i := 11) (v := (.agg (mt.map bV).toArray)) rfl (by kernel_rfl) (by kernel_rfl) (by kernel_rfl) (fun _ _ _ h => h) (Or.inl ⟨by rfl, fun w' _ => by kernel_rfl⟩) hHeld ?_
                  go_frame
                  refine held_take (i := 12) (v := (.bool sb)) rfl (by kernel_rfl) (by kernel_rfl) (by kernel_rfl) (fun _ _ _ h => h) (Or.inl ⟨by rfl, fun w' _ => by kernel_rfl⟩) hHeld ?_
                  go_frame
                  refine wpAnyH_ready (rs := [13]) (by kernel_rfl) (by simp) (held_cons rfl (fun K hK => ?_) AllReadyH.nil)
                  go_simp
                  have nf := heap_alloc_new v7 (.cells (List.replicate 32 (bV 0)).toArray 25 (0, 0))
                  have bb := (Below.refl v7.heap.size v7).alloc (Nat.le_refl _) (.cells (List.replicate 32 (bV 0)).toArray 25 (0, 0))
                  obtain ⟨gv8, hgv8⟩ : ∃ g, g = v7.heap.size := ⟨_, rfl⟩
                  have GF40 : Hid (wz.heap.size ≤ gv8) := by show _ ≤ _; rw [hgv8]; exact hHeld.size
                  generalize hqv8 : World.alloc _ _ = v8
                  have ev8 : v7.alloc (.cells (List.replicate 32 (bV 0)).toArray 25 (0, 0)) = v8 := hqv8
                  rw [ev8] at nf bb
                  rw [← hgv8] at nf ⊢
                  have F40 := Lib.hid nf
                  have hv8 := hHeld.trans (bb.mono hHeld.size)
                  clear nf bb hqv8 ev8 hgv8 hHeld
                  refine hK.out _ _ hv8 (fun hHeld => ?_)
                  clear hK K hv8
                  refine wpAnyH_ready (rs := [14]) (by kernel_rfl) (by simp) (held_cons rfl (fun K hK => ?_) AllReadyH.nil)
                  rw [if_pos (by rfl)]
                  refine wp_store_whole 25 (.tmp 40) (.tmp 280) rfl gv8 (List.replicate 32 (bV 0)) (mt.map bV) 25 rfl rfl (by rw [List.length_replicate, List.length_map, LMT.out]) F40.out (by rw [List.length_map, LMT.out]; kernel_rfl) (bV_one _) ?_
                  intro v9 q1 q2
                  have F40 := Lib.hid q1
                  have hv9 := hHeld.grown q2 hHeld.size (fun k hk => by cases hk; exact GF40.out)
                  clear q1 q2 hHeld
                  go_frame
                  refine hK.out _ _ hv9 (fun hHeld => ?_)
                  clear hK K hv9
                  refine held_take (i := 15) (v := (.bool sb)) rfl (by kernel_rfl) (by kernel_rfl) (by kernel_rfl) (fun _ _ _ h => h) (Or.inl ⟨by rfl, fun w' _ => by kernel_rfl⟩) hHeld ?_
                  go_frame
                  refine wpAnyH_done (by kernel_rfl) ?_ _
                  obtain ⟨wq, hwq⟩ : ∃ wq, wq = v9 := ⟨_, rfl⟩
                  rw [← hwq] at F40 hHeld ⊢
                  clear hwq
                  obtain ⟨g40, hg40⟩ : ∃ g, g = gv8 := ⟨_, rfl⟩
                  rw [← hg40] at F40 ⊢
                  clear hg40
                  have BX := Lib.hid (BX.out.trans (hHeld.mono BX.out.size))
                  have BP := Lib.hid (BP.out.trans (hHeld.mono BP.out.size))
                  have RW := Lib.hid (range_below RW.out hHeld)
                  have RP := Lib.hid (range_below RP.out hHeld)
                  have F38 := Lib.hid (row_below F38.out hHeld)
                  have HP1 := Lib.hid (HP1.out.below hHeld)
                  have HP2 := Lib.hid (HP2.out.below hHeld)
                  have HQ1 := Lib.hid (HQ1.out.below hHeld)
                  have HQ2 := Lib.hid (HQ2.out.below hHeld)
                  clear hHeld
                  go_wp2_with ((with_reducible show wpList _ _ _ _ _ _); first | (refine wpList_load_rowG 25 (.tmp 40) rfl g40 rfl 25 (mt.map bV).toArray (0, 0) _ F40.out Tryz.underlying25 rfl (by rw [SMT.out]; kernel_rfl) rfl ?_; go_frame) | (refine wpList_load_rowG 25 (.tmp 38) rfl g38 rfl 25 (mt.map bV).toArray (0, 0) _ F38.out Tryz.underlying25 rfl (by rw [SMT.out]; kernel_rfl) rfl ?_; go_frame))
                  refine (SMM.out _).mono ?_
                  rintro e wq1 ⟨rfl, bb⟩
                  have HS1 := samehs_v bk bk pv1 rv1 wq1 (HP1.out.below bb) (HQ1.out.below bb) LBK.out.1 true (by simp)
                  have HP2 := Lib.hid (HP2.out.below bb)
                  have HQ2 := Lib.hid (HQ2.out.below bb)
                  have BP := Lib.hid (BP.out.trans (bb.mono BP.out.size))
                  clear bb HP1 HQ1 F38 F40
                  go_wp2_with fail
                  refine HS1.mono ?_
                  rintro e wq2 ⟨rfl, bb⟩
                  have HS2 := samehs_v onl onl pv2 rv2 wq2 (HP2.out.below bb) (HQ2.out.below bb) LBK.out.2 true (by simp)
                  have BP := Lib.hid (BP.out.trans (bb.mono BP.out.size))
                  clear bb HP2 HQ2 HS1
                  go_wp2_with fail
                  refine HS2.mono ?_
                  rintro e wq3 ⟨rfl, bb⟩
                  have BP := Lib.hid (BP.out.trans (bb.mono BP.out.size))
                  clear bb HS2
                  go_wp2_with fail
                  go_roundw
                  case rel => exact ⟨p + 1, by go_num, by omega, BP.out⟩
                  case measure => simp [intOf]; omega
                · skip
                  go_simp
                  have nf := heap_alloc_new wd (.cells (List.replicate 32 (bV 0)).toArray 25 (0, 0))
                  have bb := (Below.refl wd.heap.size wd).alloc (Nat.le_refl _) (.cells (List.replicate 32 (bV 0)).toArray 25 (0, 0))
                  obtain ⟨gv10, hgv10⟩ : ∃ g, g = wd.heap.size := ⟨_, rfl⟩
                  have GF40 : Hid (wz.heap.size ≤ gv10) := by show _ ≤ _; rw [hgv10]; exact hHeld.size
                  generalize hqv10 : World.alloc _ _ = v10
                  have ev10 : wd.alloc (.cells (List.replicate 32 (bV 0)).toArray 25 (0, 0)) = v10 := hqv10
                  rw [ev10] at nf bb
                  rw [← hgv10] at nf ⊢
                  have F40 := Lib.hid nf
                  have hv10 := hHeld.trans (bb.mono hHeld.size)
                  clear nf bb hqv10 ev10 hgv10 hHeld
                  refine hK.out _ _ hv10 (fun hHeld => ?_)
                  clear hK K hv10
                  refine wpAnyH_ready (rs := [9]) (by kernel_rfl) (by simp) (held_cons rfl (fun K hK => ?_) AllReadyH.nil)
                  go_simp
                  refine (CCO.out _ (BX.out.trans (hHeld.mono BX.out.size))).mono ?_
                  rintro e v11 ⟨rfl, bb⟩
                  have F40 := Lib.hid (row_below F40.out bb)
                  have hv11 := hHeld.trans (bb.mono hHeld.size)
                  clear bb hHeld
                  go_wp2_with fail
                  refine hK.out _ _ hv11 (fun hHeld => ?_)
                  clear hK K hv11
                  refine held_take (i := 10) (v := (.tuple #[.agg (mt.map bV).toArray, .bool sb])) rfl (by kernel_rfl) (by kernel_rfl) (by kernel_rfl) (fun _ _ _ h => h) (Or.inl ⟨by rfl, fun w' _ => by kernel_rfl⟩) hHeld ?_
                  go_frame
                  refine held_take (i := 11) (v := (.agg (mt.map bV).toArray)) rfl (by kernel_rfl) (by kernel_rfl) (by kernel_rfl) (fun _ _ _ h => h) (Or.inl ⟨by rfl, fun w' _ => by kernel_rfl⟩) hHeld ?_
                  go_frame
                  refine held_take (i := 12) (v := (.bool sb)) rfl (by kernel_rfl) (by kernel_rfl) (by kernel_rfl) (fun _ _ _ h => h) (Or.inl ⟨by rfl, fun w' _ => by kernel_rfl⟩) hHeld ?_
                  go_frame
                  refine wpAnyH_ready (rs := [14]) (by kernel_rfl) (by simp) (held_cons rfl (fun K hK => ?_) AllReadyH.nil)
                  rw [if_pos (by rfl)]
                  refine wp_store_whole 25 (.tmp 40) (.tmp 280) rfl gv10 (List.replicate 32 (bV 0)) (mt.map bV) 25 rfl rfl (by rw [List.length_replicate, List.length_map, LMT.out]) F40.out (by rw [List.length_map, LMT.out]; kernel_rfl) (bV_one _) ?_
                  intro v12 q1 q2
                  have F40 := Lib.hid q1
                  have hv12 := hHeld.grown q2 hHeld.size (fun k hk => by cases hk; exact GF40.out)
                  clear q1 q2 hHeld
                  go_frame
                  refine hK.out _ _ hv12 (fun hHeld => ?_)
                  clear hK K hv12
                  refine held_take (i := 15) (v := (.bool sb)) rfl (by kernel_rfl) (by kernel_rfl) (by kernel_rfl) (fun _ _ _ h => h) (Or.inl ⟨by rfl, fun w' _ => by kernel_rfl⟩) hHeld ?_
                  go_frame
                  refine wpAnyH_done (by kernel_rfl) ?_ _
                  obtain ⟨wq, hwq⟩ : ∃ wq, wq = v12 := ⟨_, rfl⟩
                  rw [← hwq] at F40 hHeld ⊢
                  clear hwq
                  obtain ⟨g40, hg40⟩ : ∃ g, g = gv10 := ⟨_, rfl⟩
                  rw [← hg40] at F40 ⊢
                  clear hg40
                  have BX := Lib.hid (BX.out.trans (hHeld.mono BX.out.size))
                  have BP := Lib.hid (BP.out.trans (hHeld.mono BP.out.size))
                  have RW := Lib.hid (range_below RW.out hHeld)
                  have RP := Lib.hid (range_below RP.out hHeld)
                  have F38 := Lib.hid (row_below F38.out hHeld)
                  have HP1 := Lib.hid (HP1.out.below hHeld)
                  have HP2 := Lib.hid (HP2.out.below hHeld)
                  have HQ1 := Lib.hid (HQ1.out.below hHeld)
                  have HQ2 := Lib.hid (HQ2.out.below hHeld)
                  clear hHeld
                  go_wp2_with ((with_reducible show wpList _ _ _ _ _ _); first | (refine wpList_load_rowG 25 (.tmp 40) rfl g40 rfl 25 (mt.map bV).toArray (0, 0) _ F40.out Tryz.underlying25 rfl (by rw [SMT.out]; kernel_rfl) rfl ?_; go_frame) | (refine wpList_load_rowG 25 (.tmp 38) rfl g38 rfl 25 (mt.map bV).toArray (0, 0) _ F38.out Tryz.underlying25 rfl (by rw [SMT.out]; kernel_rfl) rfl ?_; go_frame))
                  refine (SMM.out _).mono ?_
                  rintro e wq1 ⟨rfl, bb⟩
                  have HS1 := samehs_v bk bk pv1 rv1 wq1 (HP1.out.below bb) (HQ1.out.below bb) LBK.out.1 true (by simp)
                  have HP2 := Lib.hid (HP2.out.below bb)
                  have HQ2 := Lib.hid (HQ2.out.below bb)
                  have BP := Lib.hid (BP.out.trans (bb.mono BP.out.size))
                  clear bb HP1 HQ1 F38 F40
                  go_wp2_with fail
                  refine HS1.mono ?_
                  rintro e wq2 ⟨rfl, bb⟩
                  have HS2 := samehs_v onl onl pv2 rv2 wq2 (HP2.out.below bb) (HQ2.out.below bb) LBK.out.2 true (by simp)
                  have BP := Lib.hid (BP.out.trans (bb.mono BP.out.size))
                  clear bb HP2 HQ2 HS1
                  go_wp2_with fail
                  refine HS2.mono ?_
                  rintro e wq3 ⟨rfl, bb⟩
                  have BP := Lib.hid (BP.out.trans (bb.mono BP.out.size))
                  clear bb HS2
                  go_wp2_with fail
                  go_roundw
                  case rel => exact ⟨p + 1, by go_num, by omega, BP.out⟩
                  case measure => simp [intOf]; omega
            · go_wp2_with fail
              go_roundw
              case rel => exact ⟨n + 1, by go_num, by omega, BIX.out.trans (BP.out.mono BIX.out.size)⟩
              case measure => simp [intOf]; omega
        · have BE0 : Hid (Below w10.heap.size w10 wr) := CB.out.trans (BN.out.mono CB.out.size)
          have TRM : Hid (TrL (ndM M)) := by show TrL _; rw [ME.out]; exact TRF.out
          obtain ⟨x0, hx0⟩ : ∃ x0, LF[0]? = some x0 := ⟨_, List.getElem?_eq_getElem TRF.out.pos⟩
          have CLN : Hid (∀ W, Below w10.heap.size w10 W → Calls Tryz.prog 27 #[(.pointer (some ⟨b, 0, none⟩))] W fun e w' => e = .returned (.int .i64 (LF.length : Int)) ∧ Below W.heap.size W w') := fun W hW => by
            have h := ctlen_any W base b mb M (HT.out.below hW) TRM.out
            rw [ME.out] at h
            exact h.mono fun e w' q => ⟨q.1, q.2 ▸ Below.refl _ _⟩
          have RLN : Hid (∀ W, Below w10.heap.size w10 W → Calls Tryz.prog 28 #[(.pointer (some ⟨a, 0, none⟩))] W fun e w' => e = .returned (.int .i64 (LF.length : Int)) ∧ Below W.heap.size W w') := fun W hW => (rlen_any W base a av2 LF (RT.out.below hW)).mono fun e w' q => ⟨q.1, q.2 ▸ Below.refl _ _⟩
          have CSTT : Hid (∀ W, Below w10.heap.size w10 W → Calls Tryz.prog 29 #[(.pointer (some ⟨b, 0, none⟩))] W fun e w' => e = .returned (.agg (x0.id.map bV).toArray) ∧ Below W.heap.size W w') := fun W hW => by
            have h := ctstart_any W base b mb M (HT.out.below hW) TRM.out
            rw [ME.out, getD_at hx0] at h
            exact h
          have RSTT : Hid (∀ W, Below w10.heap.size w10 W → Calls Tryz.prog 30 #[(.pointer (some ⟨a, 0, none⟩))] W fun e w' => e = .returned (.agg (x0.id.map bV).toArray) ∧ Below W.heap.size W w') := fun W hW => rtstart_any W base a av2 LF x0 (RT.out.below hW) TRF.out.ok hx0
          have SMS : Hid (∀ W, Calls Tryz.prog 20 #[.agg (x0.id.map bV).toArray, .agg (x0.id.map bV).toArray] W fun e w' => e = .returned (.bool true) ∧ Below W.heap.size W w') := fun W => by
            have l0 := (TRF.out.ok x0 (List.mem_of_getElem? hx0)).1
            have h := same_any x0.id x0.id l0 l0 W
            rw [decide_eq_true rfl] at h
            exact h
          obtain ⟨cx0, hcx0⟩ : ∃ cx0, cx0 = x0.id.map bV := ⟨_, rfl⟩
          obtain ⟨ln, hln⟩ : ∃ ln, ln = LF.length := ⟨_, rfl⟩
          rw [← hcx0] at CSTT RSTT SMS
          rw [← hln] at CLN RLN
          clear hx0 hcx0 hln
          go_wp2_with fail
          refine (CLN.out _ BE0.out).mono ?_
          rintro e wl ⟨rfl, bb⟩
          have BE0 := Lib.hid (BE0.out.trans (bb.mono BE0.out.size))
          clear bb
          go_wp2_with fail
          refine (RLN.out _ BE0.out).mono ?_
          rintro e wl2 ⟨rfl, bb⟩
          have BE0 := Lib.hid (BE0.out.trans (bb.mono BE0.out.size))
          clear bb
          go_wp2_with fail
          refine (CSTT.out _ BE0.out).mono ?_
          rintro e wl3 ⟨rfl, bb⟩
          have BE0 := Lib.hid (BE0.out.trans (bb.mono BE0.out.size))
          clear bb
          go_wp2_with fail
          refine (RSTT.out _ BE0.out).mono ?_
          rintro e wl4 ⟨rfl, bb⟩
          have BE0 := Lib.hid (BE0.out.trans (bb.mono BE0.out.size))
          clear bb
          go_wp2_with fail
          refine (SMS.out _).mono ?_
          rintro e wl5 ⟨rfl, bb⟩
          have BE0 := Lib.hid (BE0.out.trans (bb.mono BE0.out.size))
          clear bb
          go_wp2_with fail
          go_ret
          exact ⟨rfl, BWX.out.trans (BE0.out.mono BWX.out.size)⟩
end Go.Proofs.YtbgagaaoldjhnaaGreatDoor.Sha
