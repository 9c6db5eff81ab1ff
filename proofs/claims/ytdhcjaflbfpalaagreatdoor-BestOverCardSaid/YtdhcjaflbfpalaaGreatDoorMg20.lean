/-
  The law that of two blocks one is over the other, and the best over all that are not marked: it answers true. Conditions: the numbers lie where the slice says; three errors and the table of the rounds' words are there.
-/
import Derived.Deep.DeepCutAuto
import Derived.Test.YtdhcjaflbfpalaaGreatDoorMg19
namespace Go.Proofs.YtdhcjaflbfpalaaGreatDoor.Sha
open Go Go.RowKit
theorem CtAt.lower {w : World} {base base' b mb : Nat} {M : List CNd} (h : CtAt w base b mb M) (hb : base' ≤ base) : CtAt w base' b mb M := by
  refine ⟨h.box, h.mp, h.node, fun i c hc => ⟨⟨(h.kid i c hc).1.1, ?_⟩, (h.kid i c hc).2⟩, h.ne, Nat.le_trans hb h.lo.1, Nat.le_trans hb h.lo.2.1, fun c hc => Nat.le_trans hb (h.lo.2.2 c hc)⟩
  rcases (h.kid i c hc).1.2 with h0 | ⟨g, cap, cur, h1, h2, h3⟩
  · exact .inl h0
  · exact .inr ⟨g, cap, cur, h1, Nat.le_trans hb h2, h3⟩
theorem built_hd3 (v k : Nat) (p : List UInt8) (hp : p.length = 32) : Tryz.prog.built 28 [(0, .int .u32 (v : Int)), (1, .agg (p.map bV).toArray), (4, .int .u32 (k : Int))] = some (hdL ⟨v, p, zH, 0, k, 0⟩).toArray := by
  have hz : ∀ parts, Tryz.prog.built 28 parts = Instr.fill ([(0, 1), (1, 32), (33, 32), (65, 1), (66, 1), (67, 1)].toArray[·]?) ([] ++ ([nV 0] ++ (List.replicate 32 (bV 0) ++ (List.replicate 32 (bV 0) ++ [nV 0, nV 0, nV 0])))).toArray parts := fun parts => by kernel_rfl
  have l1 : (p.map bV).length = 32 := by simp [hp]
  have e0 : hdL ⟨v, p, zH, 0, k, 0⟩ = nV v :: (p.map bV ++ (List.replicate 32 (bV 0) ++ [nV 0, nV k, nV 0])) := rfl
  rw [e0]
  obtain ⟨i, hi⟩ : ∃ i, i = p.map bV := ⟨_, rfl⟩
  rw [← hi] at l1 ⊢
  obtain ⟨Z, hZ⟩ : ∃ Z, Z = List.replicate 32 (bV 0) := ⟨_, rfl⟩
  have lz : Z.length = 32 := by rw [hZ]; rfl
  rw [hz, ← hZ, fill_mid _ 0 0 (.int .u32 (v : Int)) [nV v] [] [nV 0] _ _ rfl rfl rfl rfl, List.nil_append,
    fill_mid _ 1 1 (Value.agg i.toArray) i [nV v] Z _ _ rfl (by rw [l1]; rfl) rfl (by rw [l1, lz])]
  have e3 : [nV v] ++ (i ++ (Z ++ [nV 0, nV 0, nV 0])) = ([nV v] ++ i ++ Z ++ [nV 0]) ++ ([nV 0] ++ [nV 0]) := by simp
  rw [e3, fill_mid _ 4 66 (.int .u32 (k : Int)) [nV k] ([nV v] ++ i ++ Z ++ [nV 0]) [nV 0] _ _ rfl rfl (by simp [l1, lz]) rfl]
  show some _ = some _
  congr 2
  simp
def BoI1 (w0 : World) (tb tm b bm mm m : Nat) (vo vi : Value) (wr : World) : Prop :=
  ∃ (k : Nat) (ov lv : Value) (M : List CNd) (B Mt : IdSet) (d : Array Rk) (I : List OH), ov = vo ∧ vi = .int .i64 (k : Int) ∧ k ≤ m ∧ I.length = k + 1 ∧ M.length ≤ k + 1 ∧ BoG w0 wr tb tm b bm mm ov lv M B Mt d I
def BoI2 (nn : Nat) (w8 : World) (v : Value) (wr : World) : Prop := ∃ k : Nat, v = .int .i64 (k : Int) ∧ k ≤ nn ∧ Below w8.heap.size w8 wr
theorem over_found {L : List TNd} (ht : TrL L) {x y : OH} (hx : 0 ≤ findT L x.1) (hy : 0 ≤ findT L y.1) : overL L x y = overK (rnkT L x) (rnkT L y) := by
  obtain ⟨k, a, _, ha, ea⟩ := found hx
  obtain ⟨j, b, _, hb, eb⟩ := found hy
  unfold overL
  rw [← ea, ofT_at ht ha, ← eb, ofT_at ht hb]
  rfl
theorem over_three {L : List TNd} (ht : TrL L) {x y : OH} (hx : 0 ≤ findT L x.1) (hy : 0 ≤ findT L y.1) : (overL L x y = true ∧ overL L y x = false ∧ decide (x.1 = y.1) = false) ∨ (overL L x y = false ∧ overL L y x = true ∧ decide (x.1 = y.1) = false) ∨ (overL L x y = false ∧ overL L y x = false ∧ decide (x.1 = y.1) = true) := by
  rw [over_found ht hx hy, over_found ht hy hx]
  have ne : ∀ a b : OH, overK (rnkT L a) (rnkT L b) = true → ¬ a.1 = b.1 := fun a b h e => by
    have : a = b := Subtype.ext e
    rw [this, swoK.irrefl] at h
    cases h
  cases h1 : overK (rnkT L x) (rnkT L y) with
  | true => exact Or.inl ⟨rfl, swo_asym swoK h1, decide_eq_false (ne x y h1)⟩
  | false =>
    cases h2 : overK (rnkT L y) (rnkT L x) with
    | true => exact Or.inr (Or.inl ⟨rfl, rfl, decide_eq_false fun e => ne y x h2 e.symm⟩)
    | false => exact Or.inr (Or.inr ⟨rfl, rfl, decide_eq_true (overK_total h1 h2).2⟩)
set_option maxHeartbeats 8000000 in
set_option maxRecDepth 100000 in
theorem bestover_main (E : Nat → Addr) (w : World) (sp : Option Addr) (m cap : Nat) (z : Nat → Int) (x y : Int) (hk : KTab w) (hE : CE w E) (hz : SrcZ w sp m z) (hx : -9223372036854775808 ≤ x ∧ x ≤ 9223372036854775807) (hy : -9223372036854775808 ≤ y ∧ y ≤ 9223372036854775807) :
    Calls Tryz.prog 4 #[.slice sp m cap, .int .i64 x, .int .i64 y] w fun e w' => e = .returned (.bool true) ∧ Below w.heap.size w w' := by
  have HK := Lib.hid hk
  have HE := Lib.hid hE
  have HZ := Lib.hid hz
  have HX := Lib.hid hx
  have HY := Lib.hid hy
  clear hk hE hz hx hy
  obtain ⟨i0, hi, hz0, hz1, hz2⟩ := info_parts info_hash
  go_enter Tryz.func4, Tryz.ntmps4
  go_wp2_with fail
  refine (bofirst_any w HK.out).mono ?_
  rintro e w1 ⟨rfl, bb⟩
  have B1 := Lib.hid bb
  clear bb
  by_cases h40 : 40 < m
  · have q : (40 : Int) < (m : Int) := by omega
    go_wp2_with fail
    go_ret
    exact ⟨rfl, B1.out⟩
  have q : ¬ (40 : Int) < (m : Int) := by omega
  have HM : Hid (m ≤ 40) := by show _ ≤ _; omega
  clear h40
  go_wp2_with fail
  clear q
  refine (rstart_any w1).mono ?_
  rintro e w2 ⟨v, rfl, hb, bb⟩
  obtain ⟨hh, tv, rfl, _⟩ := hb
  have hf := field_head startX.head hh tv
  have B2 := Lib.hid (B1.out.trans (bb.mono B1.out.size))
  have NW : Hid (∀ W, Below w.heap.size w W → Calls Tryz.prog 8 #[.agg (hdL startX.head).toArray] W fun e w' => ∃ b mb g, e = .returned (.pointer (some ⟨b, 0, none⟩)) ∧ CtAt w' W.heap.size b mb [⟨stT startX.head, g, .slice none 0 0⟩] ∧ Below W.heap.size W w') := fun W hW => ctnew_any W startX.head hh (HK.out.below hW)
  have TS : Hid (TrL (ndM [⟨stT startX.head, 0, .slice none 0 0⟩])) := stT_tr hh
  have LI : Hid ((hdId startX.head).length = 32) := hdId_length _
  have LC : Hid ((hdL startX.head).toArray.size = 68) := by show _ = _; rw [List.size_toArray]; exact hdL_length hh
  have OC : Hid ((hdL startX.head).toArray.all (·.oneCell') = true) := all_oneCell_toArray (hdL_one' _)
  obtain ⟨cb, hcb⟩ : ∃ cb, cb = blL startX.head tv := ⟨_, rfl⟩
  rw [← hcb] at hf ⊢
  obtain ⟨cs, hcs⟩ : ∃ cs, cs = hdL startX.head := ⟨_, rfl⟩
  rw [← hcs] at hf NW LC OC
  clear bb hh hcb hcs B1
  go_upto_region 7 with ((with_reducible show wpList _ _ _ _ _ _); (refine wpList_store_row rfl 28 (.tmp 8) (.tmp 26) rfl w2.heap.size cs.toArray rfl rfl 28 _ (heap_alloc_new _ _) (by rw [LC.out]; kernel_rfl) (by rw [LC.out]; rfl) OC.out ?_; go_frame))
  clear hf
  obtain ⟨_, f2, f3, f4⟩ := fill_setup (Below.refl w2.heap.size w2) (hdL hdZ).toArray cs.toArray 28
  generalize hqw3 : World.setRow _ _ _ = w3
  have ew3 : World.setRow (w2.alloc (.cells (hdL hdZ).toArray 28)) w2.heap.size cs.toArray = w3 := hqw3
  rw [ew3] at f2 f3 f4
  obtain ⟨g8, hg8⟩ : ∃ g8, g8 = w2.heap.size := ⟨_, rfl⟩
  rw [← hg8] at f2 ⊢
  have F8 := Lib.hid f2
  have Ng8 : Hid (w2.heap.size ≤ g8) := by show _ ≤ _; rw [hg8]; exact Nat.le_refl _
  have B3 := Lib.hid (B2.out.trans (f4.mono B2.out.size))
  clear f2 f3 f4 hqw3 ew3 hg8
  clear B2 Ng8
  go_wp2_with ((with_reducible show wpList _ _ _ _ _ _); (refine wpList_load_row rfl 28 (.tmp 8) rfl g8 rfl 28 cs.toArray (0, 0) _ F8.out Tryz.underlying28 rfl (by rw [LC.out]; kernel_rfl) ?_; go_frame))
  refine (NW.out w3 B3.out).mono ?_
  rintro e w4 ⟨tb, tm, g, rfl, hct, bb⟩
  have HT := Lib.hid (hct.lower B3.out.size)
  have TR : Hid (TrL (ndM [⟨stT startX.head, g, .slice none 0 0⟩])) := TS.out
  have HU : Hid (Hung (ndM [⟨stT startX.head, g, .slice none 0 0⟩])) := fun i x hx hp => by
    cases i with
    | zero => cases hx; exact absurd hp (show ¬ (0 : Int) ≤ -1 by decide)
    | succ i => cases hx
  have B4 := Lib.hid (B3.out.trans (bb.mono B3.out.size))
  have TM := Lib.hid (show tm < w4.heap.size from hct.mp.lt)
  clear hct bb NW TS B3 F8 LC OC
  go_wp2_with fail
  refine (bknew_any w4 tb).mono ?_
  rintro e w5 ⟨b, bm, mm, rfl, hm, bb⟩
  have NE : Hid (tm ≠ bm ∧ tm ≠ mm) := ⟨by have := TM.out; have := hm.lo.2.1; omega, by have := TM.out; have := hm.lo.2.2; omega⟩
  have HM5 := Lib.hid (hm.lower B4.out.size)
  have HT5 := Lib.hid (HT.out.below bb)
  have B5 := Lib.hid (B4.out.trans (bb.mono B4.out.size))
  clear hm bb HT TM B4
  have ST : Hid (Calls Tryz.prog 27 #[(.pointer (some ⟨tb, 0, none⟩))] w5 fun e w' => e = .returned (.agg ((hdId startX.head).map bV).toArray) ∧ Below w5.heap.size w5 w') := ctstart_any w5 _ tb tm _ HT5.out TR.out
  obtain ⟨s0, hs0⟩ : ∃ s0 : OH, s0 = ⟨hdId startX.head, LI.out⟩ := ⟨_, rfl⟩
  have SE : Hid (hdId startX.head = s0.1) := by show _ = _; rw [hs0]
  have LCS : Hid ((s0.1.map bV).length = 32) := by show _ = _; rw [List.length_map]; exact s0.2
  have FS0 : Hid (0 ≤ findT (ndM [⟨stT startX.head, g, .slice none 0 0⟩]) s0.1) := by
    have h : findT [stT startX.head] (hdId startX.head) = ((0 : Nat) : Int) := findT_some (L := [stT startX.head]) (x := stT startX.head) rfl rfl (fun j y hj => by omega)
    show 0 ≤ findT [stT startX.head] s0.1
    rw [← SE.out, h]
    exact Int.le_refl _
  have ST : Hid (Calls Tryz.prog 27 #[(.pointer (some ⟨tb, 0, none⟩))] w5 fun e w' => e = .returned (.agg (s0.1.map bV).toArray) ∧ Below w5.heap.size w5 w') := by rw [← SE.out]; exact ST.out
  clear hs0 LI
  go_wp2_with fail
  refine ST.out.mono ?_
  rintro e w6 ⟨rfl, bb⟩
  have HM6 := Lib.hid (HM5.out.below bb)
  have HT6 := Lib.hid (HT5.out.below bb)
  have B6 := Lib.hid (B5.out.trans (bb.mono B5.out.size))
  clear bb HM5 HT5 B5 ST
  go_upto_region 14 with ((with_reducible show wpList _ _ _ _ _ _); (refine wpList_slice_one rfl 52 26 (.tmp 36) rfl (s0.1.map bV) rfl Tryz.underlying52 i0 _ hi hz0 (by rw [hz1, LCS.out]) (by rw [LCS.out]; omega) (by rw [LCS.out]; omega) ?_; have nf := heap_alloc_new w6 (.cells ((s0.1.map bV)).toArray 26 (0, 0)); have bb := (Below.refl w6.heap.size w6).alloc (Nat.le_refl _) (.cells ((s0.1.map bV)).toArray 26 (0, 0)); obtain ⟨gi, hgi⟩ : ∃ g, g = w6.heap.size := ⟨_, rfl⟩; generalize hq : World.alloc _ _ = w7; have e2 : w6.alloc (.cells ((s0.1.map bV)).toArray 26 (0, 0)) = w7 := hq; rw [e2] at nf bb; rw [← hgi] at nf ⊢; have NF := Lib.hid nf; have HM7 := Lib.hid (HM6.out.below bb); have HT7 := Lib.hid (HT6.out.below bb); have B7 := Lib.hid (B6.out.trans (bb.mono B6.out.size)); have GI := Lib.hid ((by show w6.heap.size ≤ gi; rw [hgi]; exact Nat.le_refl _ : w6.heap.size ≤ gi)); clear nf bb hq e2 hgi; go_frame))
  have G0 : Hid (BoG w w7 tb tm b bm mm (.slice (some ⟨gi, 0, none⟩) 1 1) (.slice none 0 0) [⟨stT startX.head, g, .slice none 0 0⟩] [] [] #[] [s0]) :=
    ⟨HT7.out, TR.out, HU.out, HM7.out, MkI.none _, NE.out, rw_of_row NF.out (Nat.le_trans B6.out.size GI.out) LCS.out, fun q hq => by rw [List.mem_singleton.1 hq]; exact FS0.out, B7.out⟩
  clear HT7 HM7 NF GI B7 B6 HT6 HM6 NE FS0 SE LCS HU TR
  go_wp2_with fail
  go_loopw [11, 12] (fun vo vi wr => BoI1 w tb tm b bm mm m vo vi wr) (fun _ vi _ => m - (intOf vi).toNat)
  case atStart => exact ⟨0, _, _, _, _, _, _, _, rfl, rfl, Nat.zero_le _, rfl, Nat.le_refl _, G0.out⟩
  case round =>
    clear G0
    obtain ⟨k, ov, lv, M, B, Mt, d, I, rfl, rfl, hk, hI, hML, hg⟩ := hrel
    have GR := Lib.hid hg
    obtain ⟨nn, hnn⟩ : ∃ nn, nn = I.length := ⟨_, rfl⟩
    have NN := Lib.hid hnn
    have NK : Hid (nn = k + 1) := hnn.trans hI
    have ML := Lib.hid hML
    obtain ⟨go, oo, co, rfl, hgo⟩ := hg.at_ (by omega)
    rw [← hnn] at GR ⊢
    have RG := Lib.hid hgo
    have KM : Hid (k ≤ 40) := Nat.le_trans hk HM.out
    have n1 : 1 ≤ nn := by omega
    clear hg hI hML hgo hnn
    by_cases hlt : k < m
    · obtain ⟨zb, zo, hsp, hzc⟩ := HZ.out (by omega)
      subst hsp
      have hzk := hzc k hlt
      have ZC := Lib.hid (cell_below hzk.1 GR.out.old)
      have ZB := Lib.hid hzk.2
      have KLT : Hid (k + 1 ≤ m) := hlt
      obtain ⟨r, hr, hrn⟩ := numb_nat (z k) nn n1
      obtain ⟨q0, hq0⟩ : ∃ q0, I[r]? = some q0 := ⟨_, List.getElem?_eq_getElem (by rw [← NN.out]; exact hrn)⟩
      have RO := Lib.hid (RG.out r q0 hq0)
      have FQ := Lib.hid (GR.out.has q0 (List.mem_of_getElem? hq0))
      have LCI : Hid ((q0.1.map bV).length = 32) := by show _ = _; rw [List.length_map]; exact q0.2
      have NB := Lib.hid (numb_b (z k) (nn : Int) (by omega) (by have := KM.out; have := NK.out; omega) hzk.2)
      rw [hr] at NB
      have b3 := numb_bd ((z k).tdiv 64) 3 (by omega)
      obtain ⟨a3, ha3⟩ : ∃ a3, a3 = numb ((z k).tdiv 64) 3 := ⟨_, rfl⟩
      rw [← ha3] at b3
      have B3 := Lib.hid b3
      have N3 : Hid (∀ W, Calls Tryz.prog 11 #[.int .i64 ((z k).tdiv 64), .int .i64 3] W fun e w' => e = .returned (.int .i64 a3) ∧ Below W.heap.size W w') := fun W => by
        rw [ha3]
        exact numb_b _ 3 (by omega) (by omega) (by have h := ZB.out; have hb := tdiv_between (z k) 64 (by omega); rcases Int.le_total 0 (z k) with q | q; have := hb.1 q; omega; have := hb.2 q; omega) W
      obtain ⟨k3, hk3⟩ : ∃ k3, k3 = 1 + a3.toNat := ⟨_, rfl⟩
      have K3 := Lib.hid hk3
      have CH : Hid (HdOk ⟨k, q0.1, zH, 0, k3, 0⟩) := ⟨by show k ≤ _; have := KM.out; omega, q0.2, rfl, (show (0 : Nat) ≤ 4294967295 by decide), by show k3 ≤ _; omega, (show (0 : Nat) ≤ 4294967295 by decide)⟩
      have BH := Lib.hid (built_hd3 k k3 q0.1 q0.2)
      obtain ⟨hd, hhd⟩ : ∃ hd : THd, hd = ⟨k, q0.1, zH, 0, k3, 0⟩ := ⟨_, rfl⟩
      rw [← hhd] at CH BH
      have PV : Hid (hd.prev = q0.1) := by show _ = _; rw [hhd]
      have LN : Hid ((hdL hd).length = 68) := hdL_length CH.out
      have OA : Hid ((hdL hd).toArray.all (·.oneCell') = true) := all_oneCell_toArray (hdL_one' _)
      obtain ⟨cn, hcn⟩ : ∃ cn, cn = hdL hd := ⟨_, rfl⟩
      have CN := Lib.hid hcn
      rw [← hcn] at BH LN OA
      obtain ⟨ci, hci⟩ : ∃ ci, ci = q0.1.map bV := ⟨_, rfl⟩
      rw [← hci] at RO LCI BH
      have p0 : 0 ≤ (k : Int) := by omega
      have p1 : (k : Int) < (m : Int) := by omega
      have hrn2 : (r : Int) < (nn : Int) := by omega
      have hrn3 : 0 ≤ (r : Int) := by omega
      clear hzk hr hq0 ha3 b3 hk3 hhd hcn hci hk hzc
      go_upto_region 17 with fail
      go_cut [13] (fun v13 wx => ∃ g13, v13 = .pointer (some ⟨g13, 0, none⟩) ∧ wx.heap[g13]? = some (.cells cn.toArray 28 (0, 0)) ∧ Below wr.heap.size wr wx)
      case first =>
        refine wp_region_held_drew (S := (fun w' => Below wr.heap.size wr w')) (by kernel_rfl) (Below.drew (Below.refl _ _)) (fun hHeld => ?_)
        generalize hwd : wr.drew = wd at  hHeld ⊢
        clear hwd
        refine held_take (i := 0) (v := (.int .i64 (k : Int))) rfl (by kernel_rfl) (by kernel_rfl) (by kernel_rfl) (fun _ _ _ h => h) (Or.inl ⟨by rfl, fun w' _ => by kernel_rfl⟩) hHeld ?_
        go_frame
        refine held_take (i := 1) (v := (.int .u32 (k : Int))) rfl (by kernel_rfl) (by kernel_rfl) (by kernel_rfl) (fun _ _ _ h => h) (Or.inl ⟨by rfl, fun w' _ => by go_simp; have := KM.out; rw [IntKind.wrap_u32]; omega⟩) hHeld ?_
        go_frame
        refine held_take (i := 2) (v := (.slice (some ⟨go, oo, none⟩) nn co)) rfl (by kernel_rfl) (by kernel_rfl) (by kernel_rfl) (fun _ _ _ h => h) (Or.inl ⟨by rfl, fun w' _ => by kernel_rfl⟩) hHeld ?_
        go_frame
        refine held_take (i := 3) (v := (.slice (some ⟨zb, zo, none⟩) m cap)) rfl (by kernel_rfl) (by kernel_rfl) (by kernel_rfl) (fun _ _ _ h => h) (Or.inl ⟨by rfl, fun w' _ => by kernel_rfl⟩) hHeld ?_
        go_frame
        refine held_take (i := 4) (v := (.int .i64 (k : Int))) rfl (by kernel_rfl) (by kernel_rfl) (by kernel_rfl) (fun _ _ _ h => h) (Or.inl ⟨by rfl, fun w' _ => by kernel_rfl⟩) hHeld ?_
        go_frame
        refine held_take (i := 5) (v := (.pointer (some ⟨zb, zo + k, none⟩))) rfl (by kernel_rfl) (by kernel_rfl) (by kernel_rfl) (fun _ _ _ h => h) (Or.inl ⟨by rfl, fun w' _ => by go_simp⟩) hHeld ?_
        go_frame
        refine held_take (i := 6) (v := (.int .i64 (z k))) rfl (by kernel_rfl) (by kernel_rfl) (by kernel_rfl) (fun _ _ _ h => h) (yieldsIf_load_one (by rfl) 3 (.tmp 49) rfl zb (zo + k) rfl _ _ (fun w' hw' => cell_below ZC.out hw') Tryz.underlying3 rfl) hHeld ?_
        go_frame
        refine held_take (i := 7) (v := (.slice (some ⟨go, oo, none⟩) nn co)) rfl (by kernel_rfl) (by kernel_rfl) (by kernel_rfl) (fun _ _ _ h => h) (Or.inl ⟨by rfl, fun w' _ => by kernel_rfl⟩) hHeld ?_
        go_frame
        refine held_take (i := 8) (v := (.int .i64 (nn : Int))) rfl (by kernel_rfl) (by kernel_rfl) (by kernel_rfl) (fun _ _ _ h => h) (Or.inl ⟨by rfl, fun w' _ => by go_simp⟩) hHeld ?_
        go_frame
        refine held_take (i := 12) (v := (.slice (some ⟨zb, zo, none⟩) m cap)) rfl (by kernel_rfl) (by kernel_rfl) (by kernel_rfl) (fun _ _ _ h => h) (Or.inl ⟨by rfl, fun w' _ => by kernel_rfl⟩) hHeld ?_
        go_frame
        refine held_take (i := 13) (v := (.int .i64 (k : Int))) rfl (by kernel_rfl) (by kernel_rfl) (by kernel_rfl) (fun _ _ _ h => h) (Or.inl ⟨by rfl, fun w' _ => by kernel_rfl⟩) hHeld ?_
        go_frame
        refine held_take (i := 14) (v := (.pointer (some ⟨zb, zo + k, none⟩))) rfl (by kernel_rfl) (by kernel_rfl) (by kernel_rfl) (fun _ _ _ h => h) (Or.inl ⟨by rfl, fun w' _ => by go_simp⟩) hHeld ?_
        go_frame
        refine held_take (i := 15) (v := (.int .i64 (z k))) rfl (by kernel_rfl) (by kernel_rfl) (by kernel_rfl) (fun _ _ _ h => h) (yieldsIf_load_one (by rfl) 3 (.tmp 58) rfl zb (zo + k) rfl _ _ (fun w' hw' => cell_below ZC.out hw') Tryz.underlying3 rfl) hHeld ?_
        go_frame
        refine held_take (i := 16) (v := (.int .i64 ((z k).tdiv 64))) rfl (by kernel_rfl) (by kernel_rfl) (by kernel_rfl) (fun _ _ _ h => h) (Or.inl ⟨by rfl, fun w' _ => by go_simp; exact wrap_i64_tdiv _ _ ZB.out.1 ZB.out.2 (by omega)⟩) hHeld ?_
        go_frame
        refine wpAnyH_ready (rs := [9, 21]) (by kernel_rfl) (by simp) (held_cons rfl (fun K hK => ?_) (held_cons rfl (fun K hK => ?_) AllReadyH.nil))
        · skip
          go_simp
          refine (NB.out _).mono ?_
          rintro e v1 ⟨rfl, bb⟩
          have hv1 := hHeld.trans (bb.mono hHeld.size)
          clear bb hHeld
          go_wp2_with fail
          refine hK.out _ _ hv1 (fun hHeld => ?_)
          clear hK K hv1
          refine held_take (i := 10) (v := (.pointer (some ⟨go, oo + r * 32, none⟩))) rfl (by kernel_rfl) (by kernel_rfl) (by kernel_rfl) (fun _ _ _ h => h) (Or.inl ⟨by rfl, fun w' _ => by go_simp⟩) hHeld ?_
          go_frame
          refine held_take (i := 11) (v := (.agg ci.toArray)) rfl (by kernel_rfl) (by kernel_rfl) (by kernel_rfl) (fun _ _ _ h => h) (Sha.yieldsIf_load_mid (by rfl) 26 (.tmp 54) rfl go (oo + r * 32) rfl ci _ (fun w' hw' => range_below RO.out hw') Tryz.underlying26 rfl (by rw [LCI.out]; kernel_rfl)) hHeld ?_
          go_frame
          refine wpAnyH_ready (rs := [17, 21]) (by kernel_rfl) (by simp) (held_cons rfl (fun K hK => ?_) (held_cons rfl (fun K hK => ?_) AllReadyH.nil))
          · skip
            go_simp
            refine (N3.out _).mono ?_
            rintro e v2 ⟨rfl, bb⟩
            have hv2 := hHeld.trans (bb.mono hHeld.size)
            clear bb hHeld
            go_wp2_with fail
            refine hK.out _ _ hv2 (fun hHeld => ?_)
            clear hK K hv2
            refine held_take (i := 18) (v := (.int .i64 (1 + a3))) rfl (by kernel_rfl) (by kernel_rfl) (by kernel_rfl) (fun _ _ _ h => h) (Or.inl ⟨by rfl, fun w' _ => by go_simp; have := B3.out; rw [IntKind.wrap_i64]; omega⟩) hHeld ?_
            go_frame
            refine held_take (i := 19) (v := (.int .u32 (k3 : Int))) rfl (by kernel_rfl) (by kernel_rfl) (by kernel_rfl) (fun _ _ _ h => h) (Or.inl ⟨by rfl, fun w' _ => by go_simp; have := B3.out; have := K3.out; rw [IntKind.wrap_u32]; omega⟩) hHeld ?_
            go_frame
            refine held_take (i := 20) (v := (.agg cn.toArray)) rfl (by kernel_rfl) (by kernel_rfl) (by kernel_rfl) (fun _ _ _ h => h) (yieldsIf_build (by rfl) 28 _ rfl [(0, .int .u32 (k : Int)), (1, .agg ci.toArray), (4, .int .u32 (k3 : Int))] (by kernel_rfl) _ BH.out) hHeld ?_
            go_frame
            refine wpAnyH_ready (rs := [21]) (by kernel_rfl) (by simp) (held_cons rfl (fun K hK => ?_) AllReadyH.nil)
            go_simp
            have nf := heap_alloc_new v2 (.cells (hdL hdZ).toArray 28 (0, 0))
            have bb := (Below.refl v2.heap.size v2).alloc (Nat.le_refl _) (.cells (hdL hdZ).toArray 28 (0, 0))
            obtain ⟨gv3, hgv3⟩ : ∃ g, g = v2.heap.size := ⟨_, rfl⟩
            have GF13 : Hid (wr.heap.size ≤ gv3) := by show _ ≤ _; rw [hgv3]; exact hHeld.size
            generalize hqv3 : World.alloc _ _ = v3
            have ev3 : v2.alloc (.cells (hdL hdZ).toArray 28 (0, 0)) = v3 := hqv3
            rw [ev3] at nf bb
            rw [← hgv3] at nf ⊢
            have F13 := Lib.hid nf
            have hv3 := hHeld.trans (bb.mono hHeld.size)
            clear nf bb hqv3 ev3 hgv3 hHeld
            refine hK.out _ _ hv3 (fun hHeld => ?_)
            clear hK K hv3
            refine wpAnyH_ready (rs := [22]) (by kernel_rfl) (by simp) (held_cons rfl (fun K hK => ?_) AllReadyH.nil)
            rw [if_pos (by rfl)]
            refine wp_store_whole 28 (.tmp 13) (.tmp 64) rfl gv3 (hdL hdZ) cn 28 rfl rfl (by rw [LN.out]; rfl) F13.out (by rw [LN.out]; kernel_rfl) (OA.out) ?_
            intro v4 q1 q2
            have F13 := Lib.hid q1
            have hv4 := hHeld.grown q2 hHeld.size (fun k hk => by cases hk; exact GF13.out)
            clear q1 q2 hHeld
            go_frame
            refine hK.out _ _ hv4 (fun hHeld => ?_)
            clear hK K hv4
            refine wpAnyH_done (by kernel_rfl) ?_ _
            go_wp2_with fail
            go_meet
            case rel => exact ⟨gv3, rfl, F13.out, hHeld⟩
          · skip
            go_simp
            have nf := heap_alloc_new v1 (.cells (hdL hdZ).toArray 28 (0, 0))
            have bb := (Below.refl v1.heap.size v1).alloc (Nat.le_refl _) (.cells (hdL hdZ).toArray 28 (0, 0))
            obtain ⟨gv5, hgv5⟩ : ∃ g, g = v1.heap.size := ⟨_, rfl⟩
            have GF13 : Hid (wr.heap.size ≤ gv5) := by show _ ≤ _; rw [hgv5]; exact hHeld.size
            generalize hqv5 : World.alloc _ _ = v5
            have ev5 : v1.alloc (.cells (hdL hdZ).toArray 28 (0, 0)) = v5 := hqv5
            rw [ev5] at nf bb
            rw [← hgv5] at nf ⊢
            have F13 := Lib.hid nf
            have hv5 := hHeld.trans (bb.mono hHeld.size)
            clear nf bb hqv5 ev5 hgv5 hHeld
            refine hK.out _ _ hv5 (fun hHeld => ?_)
            clear hK K hv5
            refine wpAnyH_ready (rs := [17]) (by kernel_rfl) (by simp) (held_cons rfl (fun K hK => ?_) AllReadyH.nil)
            go_simp
            refine (N3.out _).mono ?_
            rintro e v6 ⟨rfl, bb⟩
            have F13 := Lib.hid (row_below F13.out bb)
            have hv6 := hHeld.trans (bb.mono hHeld.size)
            clear bb hHeld
            go_wp2_with fail
            refine hK.out _ _ hv6 (fun hHeld => ?_)
            clear hK K hv6
            refine held_take (i := 18) (v := (.int .i64 (1 + a3))) rfl (by kernel_rfl) (by kernel_rfl) (by kernel_rfl) (fun _ _ _ h => h) (Or.inl ⟨by rfl, fun w' _ => by go_simp; have := B3.out; rw [IntKind.wrap_i64]; omega⟩) hHeld ?_
            go_frame
            refine held_take (i := 19) (v := (.int .u32 (k3 : Int))) rfl (by kernel_rfl) (by kernel_rfl) (by kernel_rfl) (fun _ _ _ h => h) (Or.inl ⟨by rfl, fun w' _ => by go_simp; have := B3.out; have := K3.out; rw [IntKind.wrap_u32]; omega⟩) hHeld ?_
            go_frame
            refine held_take (i := 20) (v := (.agg cn.toArray)) rfl (by kernel_rfl) (by kernel_rfl) (by kernel_rfl) (fun _ _ _ h => h) (yieldsIf_build (by rfl) 28 _ rfl [(0, .int .u32 (k : Int)), (1, .agg ci.toArray), (4, .int .u32 (k3 : Int))] (by kernel_rfl) _ BH.out) hHeld ?_
            go_frame
            refine wpAnyH_ready (rs := [22]) (by kernel_rfl) (by simp) (held_cons rfl (fun K hK => ?_) AllReadyH.nil)
            rw [if_pos (by rfl)]
            refine wp_store_whole 28 (.tmp 13) (.tmp 64) rfl gv5 (hdL hdZ) cn 28 rfl rfl (by rw [LN.out]; rfl) F13.out (by rw [LN.out]; kernel_rfl) (OA.out) ?_
            intro v7 q1 q2
            have F13 := Lib.hid q1
            have hv7 := hHeld.grown q2 hHeld.size (fun k hk => by cases hk; exact GF13.out)
            clear q1 q2 hHeld
            go_frame
            refine hK.out _ _ hv7 (fun hHeld => ?_)
            clear hK K hv7
            refine wpAnyH_done (by kernel_rfl) ?_ _
            go_wp2_with fail
            go_meet
            case rel => exact ⟨gv5, rfl, F13.out, hHeld⟩
        · skip
          go_simp
          have nf := heap_alloc_new wd (.cells (hdL hdZ).toArray 28 (0, 0))
          have bb := (Below.refl wd.heap.size wd).alloc (Nat.le_refl _) (.cells (hdL hdZ).toArray 28 (0, 0))
          obtain ⟨gv8, hgv8⟩ : ∃ g, g = wd.heap.size := ⟨_, rfl⟩
          have GF13 : Hid (wr.heap.size ≤ gv8) := by show _ ≤ _; rw [hgv8]; exact hHeld.size
          generalize hqv8 : World.alloc _ _ = v8
          have ev8 : wd.alloc (.cells (hdL hdZ).toArray 28 (0, 0)) = v8 := hqv8
          rw [ev8] at nf bb
          rw [← hgv8] at nf ⊢
          have F13 := Lib.hid nf
          have hv8 := hHeld.trans (bb.mono hHeld.size)
          clear nf bb hqv8 ev8 hgv8 hHeld
          refine hK.out _ _ hv8 (fun hHeld => ?_)
          clear hK K hv8
          refine wpAnyH_ready (rs := [9]) (by kernel_rfl) (by simp) (held_cons rfl (fun K hK => ?_) AllReadyH.nil)
          go_simp
          refine (NB.out _).mono ?_
          rintro e v9 ⟨rfl, bb⟩
          have F13 := Lib.hid (row_below F13.out bb)
          have hv9 := hHeld.trans (bb.mono hHeld.size)
          clear bb hHeld
          go_wp2_with fail
          refine hK.out _ _ hv9 (fun hHeld => ?_)
          clear hK K hv9
          refine held_take (i := 10) (v := (.pointer (some ⟨go, oo + r * 32, none⟩))) rfl (by kernel_rfl) (by kernel_rfl) (by kernel_rfl) (fun _ _ _ h => h) (Or.inl ⟨by rfl, fun w' _ => by go_simp⟩) hHeld ?_
          go_frame
          refine held_take (i := 11) (v := (.agg ci.toArray)) rfl (by kernel_rfl) (by kernel_rfl) (by kernel_rfl) (fun _ _ _ h => h) (Sha.yieldsIf_load_mid (by rfl) 26 (.tmp 54) rfl go (oo + r * 32) rfl ci _ (fun w' hw' => range_below RO.out hw') Tryz.underlying26 rfl (by rw [LCI.out]; kernel_rfl)) hHeld ?_
          go_frame
          refine wpAnyH_ready (rs := [17]) (by kernel_rfl) (by simp) (held_cons rfl (fun K hK => ?_) AllReadyH.nil)
          go_simp
          refine (N3.out _).mono ?_
          rintro e v10 ⟨rfl, bb⟩
          have F13 := Lib.hid (row_below F13.out bb)
          have hv10 := hHeld.trans (bb.mono hHeld.size)
          clear bb hHeld
          go_wp2_with fail
          refine hK.out _ _ hv10 (fun hHeld => ?_)
          clear hK K hv10
          refine held_take (i := 18) (v := (.int .i64 (1 + a3))) rfl (by kernel_rfl) (by kernel_rfl) (by kernel_rfl) (fun _ _ _ h => h) (Or.inl ⟨by rfl, fun w' _ => by go_simp; have := B3.out; rw [IntKind.wrap_i64]; omega⟩) hHeld ?_
          go_frame
          refine held_take (i := 19) (v := (.int .u32 (k3 : Int))) rfl (by kernel_rfl) (by kernel_rfl) (by kernel_rfl) (fun _ _ _ h => h) (Or.inl ⟨by rfl, fun w' _ => by go_simp; have := B3.out; have := K3.out; rw [IntKind.wrap_u32]; omega⟩) hHeld ?_
          go_frame
          refine held_take (i := 20) (v := (.agg cn.toArray)) rfl (by kernel_rfl) (by kernel_rfl) (by kernel_rfl) (fun _ _ _ h => h) (yieldsIf_build (by rfl) 28 _ rfl [(0, .int .u32 (k : Int)), (1, .agg ci.toArray), (4, .int .u32 (k3 : Int))] (by kernel_rfl) _ BH.out) hHeld ?_
          go_frame
          refine wpAnyH_ready (rs := [22]) (by kernel_rfl) (by simp) (held_cons rfl (fun K hK => ?_) AllReadyH.nil)
          rw [if_pos (by rfl)]
          refine wp_store_whole 28 (.tmp 13) (.tmp 64) rfl gv8 (hdL hdZ) cn 28 rfl rfl (by rw [LN.out]; rfl) F13.out (by rw [LN.out]; kernel_rfl) (OA.out) ?_
          intro v11 q1 q2
          have F13 := Lib.hid q1
          have hv11 := hHeld.grown q2 hHeld.size (fun k hk => by cases hk; exact GF13.out)
          clear q1 q2 hHeld
          go_frame
          refine hK.out _ _ hv11 (fun hHeld => ?_)
          clear hK K hv11
          refine wpAnyH_done (by kernel_rfl) ?_ _
          go_wp2_with fail
          go_meet
          case rel => exact ⟨gv8, rfl, F13.out, hHeld⟩
      case rest =>
        obtain ⟨g13, rfl, hf13, hb⟩ := hcut
        rename World => w4
        have F4 := Lib.hid hf13
        have G4 := Lib.hid (GR.out.below hb)
        have SN : Hid (cn.toArray.size = 68) := by show _ = _; rw [List.size_toArray]; exact LN.out
        have Z4 : Hid (w4.cell? ⟨zb, zo + k, none⟩ = some (.int .i64 (z k))) := cell_below ZC.out hb
        clear hf13 hb GR RO RG NB N3 BH ZC
        have AD : Hid (Calls Tryz.prog 13 #[(.pointer (some ⟨tb, 0, none⟩)), .agg cn.toArray] w4 (CtaP E w.heap.size tb tm M hd w4)) := by rw [CN.out]; exact ctadd_any E w4 w.heap.size tb tm M hd G4.out.ct G4.out.tr CH.out (HK.out.below G4.out.old) (HE.out.below G4.out.old) G4.out.base
        clear p0 p1 hrn2 hrn3 hrn
        go_wp2_with ((with_reducible show wpList _ _ _ _ _ _); (refine wpList_load_row rfl 28 (.tmp 13) rfl g13 rfl 28 cn.toArray (0, 0) _ F4.out Tryz.underlying28 rfl (by rw [SN.out]; kernel_rfl) ?_; go_frame))
        refine AD.out.mono ?_
        intro e w5 hA
        obtain ⟨M2, hg5, hf5, hm5, hfr, _⟩ := G4.out.add CH.out (by rw [PV.out]; exact FQ.out) (by have := ML.out; have := KM.out; omega) hA
        obtain ⟨rfl, _⟩ := hA
        have G5 := Lib.hid hg5
        have FD := Lib.hid hf5
        have LM : Hid (M2.length ≤ k + 1 + 1) := by have := ML.out; show _ ≤ _; omega
        have F5 := Lib.hid (hfr _ _ _ _ F4.out (by decide) (by decide))
        have Z5 : Hid (∀ W, Below w.heap.size w W → W.cell? ⟨zb, zo + k, none⟩ = some (.int .i64 (z k))) := fun W hW => by
          obtain ⟨zb', zo', hsp, hzc⟩ := HZ.out (by have := KLT.out; omega)
          cases hsp
          exact cell_below (hzc k KLT.out).1 hW
        clear hg5 hf5 hm5 hfr G4 F4 AD Z4 FQ
        obtain ⟨q1, hq1⟩ : ∃ q1 : OH, q1 = ⟨hdId hd, hdId_length hd⟩ := ⟨_, rfl⟩
        have QE : Hid (hdId hd = q1.1) := by show _ = _; rw [hq1]
        have RI : Hid (∀ W, Calls Tryz.prog 12 #[.agg cn.toArray] W fun e w' => e = .returned (.agg (q1.1.map bV).toArray) ∧ Below W.heap.size W w') := fun W => by rw [CN.out, ← QE.out]; exact rheadid_any hd CH.out W
        have HASN : Hid (∀ q ∈ I ++ [q1], 0 ≤ findT (ndM M2) q.1) := fun q hq => by
          rcases List.mem_append.1 hq with h | h
          · exact G5.out.has q h
          · rw [List.mem_singleton.1 h, ← QE.out]; exact FD.out
        have LJ : Hid ((q1.1.map bV).length = 32) := by show _ = _; rw [List.length_map]; exact q1.2
        have OJ : Hid (∀ u ∈ q1.1.map bV, u.oneCell' = true) := bV_one' _
        have PE : Hid ((I ++ [q1]).map (fun q : OH => q.1.map bV) = (I.map fun q : OH => q.1.map bV) ++ [q1.1.map bV]) := by show _ = _; simp
        have DL : Hid (nn ≤ 1000) := by have := NK.out; have := KM.out; show _ ≤ _; omega
        have NL : Hid ((I.map fun q : OH => q.1.map bV).length = nn) := by show _ = _; rw [List.length_map]; exact NN.out.symm
        have LI9 : Hid ((I ++ [q1]).length = k + 1 + 1) := by show _ = _; rw [List.length_append, ← NN.out, NK.out]; rfl
        clear hq1
        go_wp2_with ((with_reducible show wpList _ _ _ _ _ _); (refine wpList_load_row rfl 28 (.tmp 13) rfl g13 rfl 28 cn.toArray (0, 0) _ F5.out Tryz.underlying28 rfl (by rw [SN.out]; kernel_rfl) ?_; go_frame))
        refine (RI.out w5).mono ?_
        rintro e w6 ⟨rfl, bb⟩
        have G6 := Lib.hid (G5.out.below bb)
        clear bb G5 F5 RI
        go_upto_region 20 with (first | ((with_reducible show wpList _ _ _ _ _ _); (refine wpList_slice_one rfl 52 26 (.tmp 70) rfl (q1.1.map bV) rfl Tryz.underlying52 i0 _ hi hz0 (by rw [hz1, LJ.out]) (by rw [LJ.out]; omega) (by rw [LJ.out]; omega) ?_; have nf := heap_alloc_new w6 (.cells ((q1.1.map bV)).toArray 26 (0, 0)); have bb := (Below.refl w6.heap.size w6).alloc (Nat.le_refl _) (.cells ((q1.1.map bV)).toArray 26 (0, 0)); obtain ⟨g1, hg1⟩ : ∃ g, g = w6.heap.size := ⟨_, rfl⟩; generalize hq : World.alloc _ _ = w7; have e2 : w6.alloc (.cells ((q1.1.map bV)).toArray 26 (0, 0)) = w7 := hq; rw [e2] at nf bb; rw [← hg1] at nf ⊢; have NF := Lib.hid nf; have GB := Lib.hid (G6.out.below bb); clear nf bb hq e2 hg1; go_frame)) | (at_builtin; go_loud (refine wpList_append_own_at _ rfl _ _ 52 rfl w.heap.size 26 i0 (.agg (List.replicate 32 (bV 0)).toArray) 32 32 Tryz.underlying52 hi hz0 hz1 hz2 (by kernel_rfl) (by decide) (.slice (some ⟨go, oo, none⟩) nn co) _ ((I.map fun q : OH => q.1.map bV)).flatten rfl (by have h := GB.out.ids.1; rw [NL.out] at h; exact h) ⟨g1, 0, none⟩ 1 1 (q1.1.map bV) rfl (by rw [LJ.out]) (fun j u hj => by rw [Addr.add_mid]; exact range_of_box NF.out j u hj) OJ.out (by have := DL.out; unfold maxLen; omega) (by have := DL.out; omega) GB.out.base ?_; intro nv w8 e1 e2 _ e4; have NEW : Hid (RwOwn 32 26 w.heap.size w8 nv ((I.map fun q : OH => q.1.map bV) ++ [q1.1.map bV])) := RwOwn.push GB.out.ids.2 LJ.out (by rw [NL.out]; exact e1); have G8 := Lib.hid (GB.out.turn e2 (I' := I ++ [q1]) (by rw [PE.out]; exact NEW.out) HASN.out); clear e1 e2 e4; go_frame)))
        clear G6 GB NF HASN NEW PE FD QE
        obtain ⟨ga, oa, ca, rfl, hga⟩ := G8.out.at_ (by have := LI9.out; omega)
        obtain ⟨J, hJ⟩ : ∃ J, J = I ++ [q1] := ⟨_, rfl⟩
        rw [← hJ] at hga G8 LI9 ⊢
        have RA := Lib.hid hga
        have LI8 : Hid (J.length = k + 2) := LI9.out
        obtain ⟨n2, hn2⟩ : ∃ n2, n2 = J.length := ⟨_, rfl⟩
        have N2 : Hid (n2 = k + 2) := hn2.trans LI8.out
        rw [← hn2] at G8 ⊢
        have JN := Lib.hid hn2
        clear hga hJ hn2 NL DL OJ LJ
        have z8 := Z5.out w8 G8.out.old
        have p0 : 0 ≤ (k : Int) := by omega
        have p1 : (k : Int) < (m : Int) := by omega
        have t5 : -5 < (z k).tmod 5 ∧ (z k).tmod 5 < 5 := ⟨Int.lt_tmod_of_pos _ (by omega), Int.tmod_lt_of_pos _ (by omega)⟩
        by_cases h5 : (z k).tmod 5 = 0
        · go_upto_region 21 with fail
          clear t5
          obtain ⟨r2, hr2, hrn2⟩ := numb_nat ((z k).tdiv 3) n2 (by have := N2.out; omega)
          have zb3 : -9223372036854775808 ≤ (z k).tdiv 3 ∧ (z k).tdiv 3 ≤ 9223372036854775807 := by
            have h := ZB.out
            have hb := tdiv_between (z k) 3 (by omega)
            rcases Int.le_total 0 (z k) with q | q
            · have := hb.1 q; omega
            · have := hb.2 q; omega
          have NB := Lib.hid (numb_b ((z k).tdiv 3) (n2 : Int) (by have := N2.out; omega) (by have := N2.out; have := KM.out; omega) zb3)
          rw [hr2] at NB
          have w3 : IntKind.i64.wrap ((z k).tdiv 3) = (z k).tdiv 3 := IntWalk.i64_in _ zb3
          obtain ⟨q2, hq2⟩ : ∃ q2, J[r2]? = some q2 := ⟨_, List.getElem?_eq_getElem (by rw [← JN.out]; exact hrn2)⟩
          have RQ := Lib.hid (RA.out r2 q2 hq2)
          have LQ : Hid ((q2.1.map bV).length = 32) := by show _ = _; rw [List.length_map]; exact q2.2
          have BD : Hid (∀ W, Below w8.heap.size w8 W → Calls Tryz.prog 15 #[(.pointer (some ⟨b, 0, none⟩)), .agg (q2.1.map bV).toArray] W (BaP w.heap.size b tb bm mm lv B Mt d (ndM M2) q2.1 W)) := fun W hW => bkbad_any W w.heap.size b tb bm mm _ tm lv B Mt d M2 q2.1 (G8.out.mks.below hW) (G8.out.ct.below hW) G8.out.tr q2.2
          obtain ⟨cq, hcq⟩ : ∃ cq, cq = q2.1.map bV := ⟨_, rfl⟩
          rw [← hcq] at RQ LQ BD
          have r0 : 0 ≤ (r2 : Int) := by omega
          have r1 : (r2 : Int) < (n2 : Int) := by omega
          clear hr2 hrn2 hq2 hcq zb3 RA h5
          go_wp2_with fail
          clear w3 z8
          refine (NB.out w8).mono ?_
          rintro e w9 ⟨rfl, bb⟩
          have RQ9 := Lib.hid (range_below RQ.out bb)
          have GB9 := Lib.hid (G8.out.below bb)
          have C9 := Lib.hid bb
          clear bb NB G8 RQ
          go_wp2_with ((with_reducible show wpList _ _ _ _ _ _); (refine wpList_load_mid rfl 26 (.tmp 89) rfl ga (oa + r2 * 32) rfl cq _ RQ9.out Tryz.underlying26 rfl (by rw [LQ.out]; kernel_rfl) ?_; go_frame))
          clear r0 r1 p0 p1
          refine (BD.out w9 C9.out).mono ?_
          intro e wa hB
          obtain ⟨B9, hg9, _, hc9⟩ := GB9.out.bad hB
          obtain ⟨bv, rfl⟩ : ∃ bv : Bool, e = .returned (.bool bv) := by
            rcases hc9 with ⟨_, h, _⟩ | ⟨_, h, _⟩
            · exact ⟨_, h⟩
            · exact ⟨_, h⟩
          have G9 := Lib.hid hg9
          clear hB hg9 hc9 GB9 BD RQ9
          have km := KM.out
          go_wp2_with fail
          go_roundw
          case rel => exact ⟨k + 1, _, _, _, _, _, _, _, rfl, by go_num, KLT.out, LI9.out, LM.out, G9.out⟩
          case measure => simp [intOf]; omega
        · have G9 := G8
          go_wp2_with fail
          clear t5 h5 z8 p0 p1
          have km := KM.out
          go_roundw
          case rel => exact ⟨k + 1, _, _, _, _, _, _, _, rfl, by go_num, KLT.out, LI9.out, LM.out, G9.out⟩
          case measure => simp [intOf]; omega
    · have hkm : k = m := by have := KM.out; omega
      have q0 : ¬ ((k : Int) < (m : Int)) := by omega
      have BE : Hid (Calls Tryz.prog 18 #[(.pointer (some ⟨b, 0, none⟩))] wr (BsP w.heap.size b tb bm mm B (ndM M) wr)) := bkbest_any wr w.heap.size b tb bm mm _ tm lv B Mt d M GR.out.mks GR.out.mi GR.out.ct GR.out.tr GR.out.hung GR.out.ne GR.out.base
      clear hkm hk
      go_wp2_with fail
      clear q0
      refine BE.out.mono ?_
      intro e w2 hB
      obtain ⟨top, lv2, Mt2, d2, rfl, hbp, hg2, _⟩ := GR.out.best hB
      have BP := Lib.hid hbp
      have G2 := Lib.hid hg2
      have CT : Hid ((top.1.map bV).length = 32) := by show _ = _; rw [List.length_map]; exact top.2
      have SCT : Hid ((top.1.map bV).toArray.size = 32) := by show _ = _; rw [List.size_toArray]; exact CT.out
      have OCT : Hid ((top.1.map bV).toArray.all (·.oneCell') = true) := bV_one _
      obtain ⟨ct, hct⟩ : ∃ ct, ct = top.1.map bV := ⟨_, rfl⟩
      have ET := Lib.hid hct
      rw [← hct] at CT SCT OCT ⊢
      clear hB hbp hg2 GR BE RG hct
      go_upto_region 23 with ((with_reducible show wpList _ _ _ _ _ _); (refine wpList_store_row rfl 26 (.tmp 14) (.tmp 93) rfl w2.heap.size ct.toArray rfl rfl 26 _ (heap_alloc_new _ _) (by rw [SCT.out]; kernel_rfl) (by rw [SCT.out]; rfl) OCT.out ?_; go_frame))
      obtain ⟨_, f2, f3, f4⟩ := fill_setup (Below.refl w2.heap.size w2) (List.replicate 32 (bV 0)).toArray ct.toArray 26
      generalize hqw8 : World.setRow _ _ _ = w8
      have ew8 : World.setRow (w2.alloc (.cells (List.replicate 32 (bV 0)).toArray 26)) w2.heap.size ct.toArray = w8 := hqw8
      rw [ew8] at f2 f3 f4
      obtain ⟨g14, hg14⟩ : ∃ g14, g14 = w2.heap.size := ⟨_, rfl⟩
      rw [← hg14] at f2 ⊢
      have F14 := Lib.hid f2
      have Ng14 : Hid (w2.heap.size ≤ g14) := by show _ ≤ _; rw [hg14]; exact Nat.le_refl _
      have G8 := Lib.hid (G2.out.below f4)
      clear f2 f3 f4 hqw8 ew8 hg14
      clear G2 Ng14
      obtain ⟨go8, oo8, co8, he8, hgo8⟩ := G8.out.at_ (by rw [← NN.out]; exact n1)
      rw [← NN.out] at he8
      cases he8
      have RG8 := Lib.hid hgo8
      clear hgo8
      have TP : Hid (isM (ndM M) B top.1 = false) := BP.out.free
      have FT : Hid (0 ≤ findT (ndM M) top.1) := BP.out.has
      have ISA : Hid (∀ (q : OH) W, Below w8.heap.size w8 W → Calls Tryz.prog 20 #[(.pointer (some ⟨b, 0, none⟩)), .agg (q.1.map bV).toArray] W fun e w' => e = .returned (.bool (isM (ndM M) B q.1)) ∧ Below W.heap.size W w') := fun q W hW => bkis_any W w.heap.size b tb bm mm _ tm lv2 B Mt2 d2 M q.1 (G8.out.mks.below hW) (G8.out.ct.below hW) G8.out.tr q.2
      have OVA : Hid (∀ (p q : OH) W, Below w8.heap.size w8 W → Calls Tryz.prog 22 #[(.pointer (some ⟨b, 0, none⟩)), .agg (p.1.map bV).toArray, .agg (q.1.map bV).toArray] W fun e w' => e = .returned (.bool (overL (ndM M) p q)) ∧ Below W.heap.size W w') := fun p q W hW => bkovr_any W w.heap.size b tb bm mm _ tm lv2 B Mt2 d2 M p q (G8.out.mks.below hW) (G8.out.ct.below hW) G8.out.tr
      have BW : Hid (Below w.heap.size w w8) := G8.out.old
      go_wp2_with fail
      go_loopw [15] (fun v wz => BoI2 nn w8 v wz) (fun v _ => nn - (intOf v).toNat)
      case atStart => exact ⟨0, rfl, Nat.zero_le _, Below.refl _ _⟩
      case round =>
        obtain ⟨j, rfl, hj, hb⟩ := hrel
        rename World => wz
        have BZ := Lib.hid hb
        have JM : Hid (j ≤ 41) := by have := KM.out; have := NK.out; show _ ≤ _; omega
        clear hb
        by_cases hlt : j < nn
        · obtain ⟨q, hq⟩ : ∃ q, I[j]? = some q := ⟨_, List.getElem?_eq_getElem (by rw [← NN.out]; exact hlt)⟩
          have RQ := Lib.hid (range_below (RG8.out j q hq) BZ.out)
          have FZ := Lib.hid (row_below F14.out BZ.out)
          have JL : Hid (j + 1 ≤ nn) := hlt
          have LQ : Hid ((q.1.map bV).length = 32) := by show _ = _; rw [List.length_map]; exact q.2
          have FQ := Lib.hid (G8.out.has q (List.mem_of_getElem? hq))
          have IQ : Hid (∀ W, Below w8.heap.size w8 W → Calls Tryz.prog 20 #[(.pointer (some ⟨b, 0, none⟩)), .agg (q.1.map bV).toArray] W fun e w' => e = .returned (.bool (isM (ndM M) B q.1)) ∧ Below W.heap.size W w') := ISA.out q
          have OQ : Hid (∀ W, Below w8.heap.size w8 W → Calls Tryz.prog 22 #[(.pointer (some ⟨b, 0, none⟩)), .agg ct.toArray, .agg (q.1.map bV).toArray] W fun e w' => e = .returned (.bool (overL (ndM M) top q)) ∧ Below W.heap.size W w') := by rw [ET.out]; exact OVA.out top q
          have SQ0 : Hid (∀ W, Calls Tryz.prog 17 #[.agg ct.toArray, .agg (q.1.map bV).toArray] W fun e w' => e = .returned (.bool (decide (top.1 = q.1))) ∧ Below W.heap.size W w') := by rw [ET.out]; exact fun W => same_any top.1 q.1 top.2 q.2 W
          have HQ : Hid (isM (ndM M) B q.1 = false → overL (ndM M) top q = false → decide (top.1 = q.1) = true) := fun h1 h2 => by
            rcases BP.out.over q FQ.out h1 with h | h
            · rw [h]; exact decide_eq_true rfl
            · rw [over_found G8.out.tr FT.out FQ.out, h] at h2
              cases h2
          obtain ⟨iq, hiq⟩ : ∃ iq, iq = isM (ndM M) B q.1 := ⟨_, rfl⟩
          rw [← hiq] at IQ HQ
          obtain ⟨oq, hoq⟩ : ∃ oq, oq = overL (ndM M) top q := ⟨_, rfl⟩
          rw [← hoq] at OQ HQ
          obtain ⟨sq, hsq⟩ : ∃ sq, sq = decide (top.1 = q.1) := ⟨_, rfl⟩
          rw [← hsq] at SQ0 HQ
          obtain ⟨cq, hcq⟩ : ∃ cq, cq = q.1.map bV := ⟨_, rfl⟩
          rw [← hcq] at RQ LQ IQ OQ SQ0
          have u0 : 0 ≤ (j : Int) := by omega
          have u1 : (j : Int) < (nn : Int) := by omega
          clear hq hiq hoq hsq hcq hj FQ
          go_upto_region 26 with fail
          cases iq with
          | true =>
            cases oq with
            | true =>
              refine wp_region_held_drew (S := (fun w' => Below wz.heap.size wz w')) (by kernel_rfl) (Below.drew (Below.refl _ _)) (fun hHeld => ?_)
              generalize hwd : wz.drew = wd at  hHeld ⊢
              clear hwd
              refine held_take (i := 0) (v := (.pointer (some ⟨b, 0, none⟩))) rfl (by kernel_rfl) (by kernel_rfl) (by kernel_rfl) (fun _ _ _ h => h) (Or.inl ⟨by rfl, fun w' _ => by kernel_rfl⟩) hHeld ?_
              go_frame
              refine held_take (i := 1) (v := (.slice (some ⟨go, oo, none⟩) nn co)) rfl (by kernel_rfl) (by kernel_rfl) (by kernel_rfl) (fun _ _ _ h => h) (Or.inl ⟨by rfl, fun w' _ => by kernel_rfl⟩) hHeld ?_
              go_frame
              refine held_take (i := 2) (v := (.int .i64 (j : Int))) rfl (by kernel_rfl) (by kernel_rfl) (by kernel_rfl) (fun _ _ _ h => h) (Or.inl ⟨by rfl, fun w' _ => by kernel_rfl⟩) hHeld ?_
              go_frame
              refine held_take (i := 3) (v := (.pointer (some ⟨go, oo + j * 32, none⟩))) rfl (by kernel_rfl) (by kernel_rfl) (by kernel_rfl) (fun _ _ _ h => h) (Or.inl ⟨by rfl, fun w' _ => by go_simp⟩) hHeld ?_
              go_frame
              refine held_take (i := 4) (v := (.agg cq.toArray)) rfl (by kernel_rfl) (by kernel_rfl) (by kernel_rfl) (fun _ _ _ h => h) (Sha.yieldsIf_load_mid (by rfl) 26 (.tmp 103) rfl go (oo + j * 32) rfl cq _ (fun w' hw' => range_below RQ.out hw') Tryz.underlying26 rfl (by rw [LQ.out]; kernel_rfl)) hHeld ?_
              go_frame
              refine held_take (i := 6) (v := (.pointer (some ⟨b, 0, none⟩))) rfl (by kernel_rfl) (by kernel_rfl) (by kernel_rfl) (fun _ _ _ h => h) (Or.inl ⟨by rfl, fun w' _ => by kernel_rfl⟩) hHeld ?_
              go_frame
              refine held_take (i := 7) (v := (.agg ct.toArray)) rfl (by kernel_rfl) (by kernel_rfl) (by kernel_rfl) (fun _ _ _ h => h) (yieldsIf_load_row (by rfl) 26 (.tmp 14) rfl g14 rfl 26 ct.toArray (0, 0) _ (fun w' hw' => row_below FZ.out hw') Tryz.underlying26 rfl (by rw [SCT.out]; kernel_rfl)) hHeld ?_
              go_frame
              refine held_take (i := 8) (v := (.slice (some ⟨go, oo, none⟩) nn co)) rfl (by kernel_rfl) (by kernel_rfl) (by kernel_rfl) (fun _ _ _ h => h) (Or.inl ⟨by rfl, fun w' _ => by kernel_rfl⟩) hHeld ?_
              go_frame
              refine held_take (i := 9) (v := (.int .i64 (j : Int))) rfl (by kernel_rfl) (by kernel_rfl) (by kernel_rfl) (fun _ _ _ h => h) (Or.inl ⟨by rfl, fun w' _ => by kernel_rfl⟩) hHeld ?_
              go_frame
              refine held_take (i := 10) (v := (.pointer (some ⟨go, oo + j * 32, none⟩))) rfl (by kernel_rfl) (by kernel_rfl) (by kernel_rfl) (fun _ _ _ h => h) (Or.inl ⟨by rfl, fun w' _ => by go_simp⟩) hHeld ?_
              go_frame
              refine held_take (i := 11) (v := (.agg cq.toArray)) rfl (by kernel_rfl) (by kernel_rfl) (by kernel_rfl) (fun _ _ _ h => h) (Sha.yieldsIf_load_mid (by rfl) 26 (.tmp 110) rfl go (oo + j * 32) rfl cq _ (fun w' hw' => range_below RQ.out hw') Tryz.underlying26 rfl (by rw [LQ.out]; kernel_rfl)) hHeld ?_
              go_frame
              refine wpAnyH_ready (rs := [5]) (by kernel_rfl) (by simp) (held_cons rfl (fun K hK => ?_) AllReadyH.nil)
              go_simp
              refine (IQ.out _ (BZ.out.trans (hHeld.mono BZ.out.size))).mono ?_
              rintro e v1 ⟨rfl, bb⟩
              have hv1 := hHeld.trans (bb.mono hHeld.size)
              clear bb hHeld
              go_wp2_with fail
              refine hK.out _ _ hv1 (fun hHeld => ?_)
              clear hK K hv1
              refine wpAnyH_ready (rs := [12]) (by kernel_rfl) (by simp) (held_cons rfl (fun K hK => ?_) AllReadyH.nil)
              go_simp
              refine (OQ.out _ (BZ.out.trans (hHeld.mono BZ.out.size))).mono ?_
              rintro e v2 ⟨rfl, bb⟩
              have hv2 := hHeld.trans (bb.mono hHeld.size)
              clear bb hHeld
              go_wp2_with fail
              refine hK.out _ _ hv2 (fun hHeld => ?_)
              clear hK K hv2
              refine held_take (i := 13) (v := (.bool true)) rfl (by kernel_rfl) (by kernel_rfl) (by kernel_rfl) (fun _ _ _ h => h) (Or.inl ⟨by rfl, fun w' _ => by go_simp⟩) hHeld ?_
              go_frame
              refine held_take (i := 14) (v := (.bool true)) rfl (by kernel_rfl) (by kernel_rfl) (by kernel_rfl) (fun _ _ _ h => h) (Or.inl ⟨by rfl, fun w' _ => by kernel_rfl⟩) hHeld ?_
              go_frame
              refine held_take (i := 15) (v := (.pointer (some ⟨b, 0, none⟩))) rfl (by kernel_rfl) (by kernel_rfl) (by kernel_rfl) (fun _ _ _ h => h) (Or.inl ⟨by rfl, fun w' _ => by kernel_rfl⟩) hHeld ?_
              go_frame
              refine held_take (i := 16) (v := (.slice (some ⟨go, oo, none⟩) nn co)) rfl (by kernel_rfl) (by kernel_rfl) (by kernel_rfl) (fun _ _ _ h => h) (Or.inl ⟨by rfl, fun w' _ => by kernel_rfl⟩) hHeld ?_
              go_frame
              refine held_take (i := 17) (v := (.int .i64 (j : Int))) rfl (by kernel_rfl) (by kernel_rfl) (by kernel_rfl) (fun _ _ _ h => h) (Or.inl ⟨by rfl, fun w' _ => by kernel_rfl⟩) hHeld ?_
              go_frame
              refine held_take (i := 18) (v := (.pointer (some ⟨go, oo + j * 32, none⟩))) rfl (by kernel_rfl) (by kernel_rfl) (by kernel_rfl) (fun _ _ _ h => h) (Or.inl ⟨by rfl, fun w' _ => by go_simp⟩) hHeld ?_
              go_frame
              refine held_take (i := 19) (v := (.agg cq.toArray)) rfl (by kernel_rfl) (by kernel_rfl) (by kernel_rfl) (fun _ _ _ h => h) (Sha.yieldsIf_load_mid (by rfl) 26 (.tmp 118) rfl go (oo + j * 32) rfl cq _ (fun w' hw' => range_below RQ.out hw') Tryz.underlying26 rfl (by rw [LQ.out]; kernel_rfl)) hHeld ?_
              go_frame
              refine wpAnyH_ready (rs := [20]) (by kernel_rfl) (by simp) (held_cons rfl (fun K hK => ?_) AllReadyH.nil)
              rw [if_pos (by rfl)]
              go_simp
              refine (IQ.out _ (BZ.out.trans (hHeld.mono BZ.out.size))).mono ?_
              rintro e v3 ⟨rfl, bb⟩
              have hv3 := hHeld.trans (bb.mono hHeld.size)
              clear bb hHeld
              go_wp2_with fail
              refine hK.out _ _ hv3 (fun hHeld => ?_)
              clear hK K hv3
              refine held_take (i := 21) (v := (.bool false)) rfl (by kernel_rfl) (by kernel_rfl) (by kernel_rfl) (fun _ _ _ h => h) (Or.inl ⟨by rfl, fun w' _ => by go_simp⟩) hHeld ?_
              go_frame
              refine held_take (i := 22) (v := (.bool false)) rfl (by kernel_rfl) (by kernel_rfl) (by kernel_rfl) (fun _ _ _ h => h) (Or.inl ⟨by rfl, fun w' _ => by go_simp⟩) hHeld ?_
              go_frame
              refine held_take (i := 23) (v := (.bool false)) rfl (by kernel_rfl) (by kernel_rfl) (by kernel_rfl) (fun _ _ _ h => h) (Or.inl ⟨by rfl, fun w' _ => by kernel_rfl⟩) hHeld ?_
              go_frame
              refine held_take (i := 24) (v := undef) rfl (by kernel_rfl) (by kernel_rfl) (by kernel_rfl) (fun _ _ _ h => h) (Or.inr ⟨by rfl, rfl⟩) hHeld ?_
              go_frame
              refine held_take (i := 25) (v := undef) rfl (by kernel_rfl) (by kernel_rfl) (by kernel_rfl) (fun _ _ _ h => h) (Or.inr ⟨by rfl, rfl⟩) hHeld ?_
              go_frame
              refine held_take (i := 26) (v := undef) rfl (by kernel_rfl) (by kernel_rfl) (by kernel_rfl) (fun _ _ _ h => h) (Or.inr ⟨by rfl, rfl⟩) hHeld ?_
              go_frame
              refine held_take (i := 27) (v := undef) rfl (by kernel_rfl) (by kernel_rfl) (by kernel_rfl) (fun _ _ _ h => h) (Or.inr ⟨by rfl, rfl⟩) hHeld ?_
              go_frame
              refine held_take (i := 28) (v := undef) rfl (by kernel_rfl) (by kernel_rfl) (by kernel_rfl) (fun _ _ _ h => h) (Or.inr ⟨by rfl, rfl⟩) hHeld ?_
              go_frame
              refine held_take (i := 29) (v := undef) rfl (by kernel_rfl) (by kernel_rfl) (by kernel_rfl) (fun _ _ _ h => h) (Or.inr ⟨by rfl, rfl⟩) hHeld ?_
              go_frame
              refine held_take (i := 30) (v := undef) rfl (by kernel_rfl) (by kernel_rfl) (by kernel_rfl) (fun _ _ _ h => h) (Or.inr ⟨by rfl, rfl⟩) hHeld ?_
              go_frame
              refine held_take (i := 31) (v := (.bool false)) rfl (by kernel_rfl) (by kernel_rfl) (by kernel_rfl) (fun _ _ _ h => h) (Or.inl ⟨by rfl, fun w' _ => by go_simp⟩) hHeld ?_
              go_frame
              refine wpAnyH_done (by kernel_rfl) ?_ _
              have jm := JM.out
              go_wp2_with fail
              go_roundw
              case rel => exact ⟨j + 1, by go_num, JL.out, BZ.out.trans (hHeld.mono BZ.out.size)⟩
              case measure => simp [intOf]; omega
            | false =>
              refine wp_region_held_drew (S := (fun w' => Below wz.heap.size wz w')) (by kernel_rfl) (Below.drew (Below.refl _ _)) (fun hHeld => ?_)
              generalize hwd : wz.drew = wd at  hHeld ⊢
              clear hwd
              refine held_take (i := 0) (v := (.pointer (some ⟨b, 0, none⟩))) rfl (by kernel_rfl) (by kernel_rfl) (by kernel_rfl) (fun _ _ _ h => h) (Or.inl ⟨by rfl, fun w' _ => by kernel_rfl⟩) hHeld ?_
              go_frame
              refine held_take (i := 1) (v := (.slice (some ⟨go, oo, none⟩) nn co)) rfl (by kernel_rfl) (by kernel_rfl) (by kernel_rfl) (fun _ _ _ h => h) (Or.inl ⟨by rfl, fun w' _ => by kernel_rfl⟩) hHeld ?_
              go_frame
              refine held_take (i := 2) (v := (.int .i64 (j : Int))) rfl (by kernel_rfl) (by kernel_rfl) (by kernel_rfl) (fun _ _ _ h => h) (Or.inl ⟨by rfl, fun w' _ => by kernel_rfl⟩) hHeld ?_
              go_frame
              refine held_take (i := 3) (v := (.pointer (some ⟨go, oo + j * 32, none⟩))) rfl (by kernel_rfl) (by kernel_rfl) (by kernel_rfl) (fun _ _ _ h => h) (Or.inl ⟨by rfl, fun w' _ => by go_simp⟩) hHeld ?_
              go_frame
              refine held_take (i := 4) (v := (.agg cq.toArray)) rfl (by kernel_rfl) (by kernel_rfl) (by kernel_rfl) (fun _ _ _ h => h) (Sha.yieldsIf_load_mid (by rfl) 26 (.tmp 103) rfl go (oo + j * 32) rfl cq _ (fun w' hw' => range_below RQ.out hw') Tryz.underlying26 rfl (by rw [LQ.out]; kernel_rfl)) hHeld ?_
              go_frame
              refine held_take (i := 6) (v := (.pointer (some ⟨b, 0, none⟩))) rfl (by kernel_rfl) (by kernel_rfl) (by kernel_rfl) (fun _ _ _ h => h) (Or.inl ⟨by rfl, fun w' _ => by kernel_rfl⟩) hHeld ?_
              go_frame
              refine held_take (i := 7) (v := (.agg ct.toArray)) rfl (by kernel_rfl) (by kernel_rfl) (by kernel_rfl) (fun _ _ _ h => h) (yieldsIf_load_row (by rfl) 26 (.tmp 14) rfl g14 rfl 26 ct.toArray (0, 0) _ (fun w' hw' => row_below FZ.out hw') Tryz.underlying26 rfl (by rw [SCT.out]; kernel_rfl)) hHeld ?_
              go_frame
              refine held_take (i := 8) (v := (.slice (some ⟨go, oo, none⟩) nn co)) rfl (by kernel_rfl) (by kernel_rfl) (by kernel_rfl) (fun _ _ _ h => h) (Or.inl ⟨by rfl, fun w' _ => by kernel_rfl⟩) hHeld ?_
              go_frame
              refine held_take (i := 9) (v := (.int .i64 (j : Int))) rfl (by kernel_rfl) (by kernel_rfl) (by kernel_rfl) (fun _ _ _ h => h) (Or.inl ⟨by rfl, fun w' _ => by kernel_rfl⟩) hHeld ?_
              go_frame
              refine held_take (i := 10) (v := (.pointer (some ⟨go, oo + j * 32, none⟩))) rfl (by kernel_rfl) (by kernel_rfl) (by kernel_rfl) (fun _ _ _ h => h) (Or.inl ⟨by rfl, fun w' _ => by go_simp⟩) hHeld ?_
              go_frame
              refine held_take (i := 11) (v := (.agg cq.toArray)) rfl (by kernel_rfl) (by kernel_rfl) (by kernel_rfl) (fun _ _ _ h => h) (Sha.yieldsIf_load_mid (by rfl) 26 (.tmp 110) rfl go (oo + j * 32) rfl cq _ (fun w' hw' => range_below RQ.out hw') Tryz.underlying26 rfl (by rw [LQ.out]; kernel_rfl)) hHeld ?_
              go_frame
              refine wpAnyH_ready (rs := [5]) (by kernel_rfl) (by simp) (held_cons rfl (fun K hK => ?_) AllReadyH.nil)
              go_simp
              refine (IQ.out _ (BZ.out.trans (hHeld.mono BZ.out.size))).mono ?_
              rintro e v1 ⟨rfl, bb⟩
              have hv1 := hHeld.trans (bb.mono hHeld.size)
              clear bb hHeld
              go_wp2_with fail
              refine hK.out _ _ hv1 (fun hHeld => ?_)
              clear hK K hv1
              refine wpAnyH_ready (rs := [12]) (by kernel_rfl) (by simp) (held_cons rfl (fun K hK => ?_) AllReadyH.nil)
              go_simp
              refine (OQ.out _ (BZ.out.trans (hHeld.mono BZ.out.size))).mono ?_
              rintro e v2 ⟨rfl, bb⟩
              have hv2 := hHeld.trans (bb.mono hHeld.size)
              clear bb hHeld
              go_wp2_with fail
              refine hK.out _ _ hv2 (fun hHeld => ?_)
              clear hK K hv2
              refine held_take (i := 13) (v := (.bool false)) rfl (by kernel_rfl) (by kernel_rfl) (by kernel_rfl) (fun _ _ _ h => h) (Or.inl ⟨by rfl, fun w' _ => by go_simp⟩) hHeld ?_
              go_frame
              refine held_take (i := 14) (v := (.bool false)) rfl (by kernel_rfl) (by kernel_rfl) (by kernel_rfl) (fun _ _ _ h => h) (Or.inl ⟨by rfl, fun w' _ => by kernel_rfl⟩) hHeld ?_
              go_frame
              refine held_take (i := 15) (v := undef) rfl (by kernel_rfl) (by kernel_rfl) (by kernel_rfl) (fun _ _ _ h => h) (Or.inr ⟨by rfl, rfl⟩) hHeld ?_
              go_frame
              refine held_take (i := 16) (v := undef) rfl (by kernel_rfl) (by kernel_rfl) (by kernel_rfl) (fun _ _ _ h => h) (Or.inr ⟨by rfl, rfl⟩) hHeld ?_
              go_frame
              refine held_take (i := 17) (v := undef) rfl (by kernel_rfl) (by kernel_rfl) (by kernel_rfl) (fun _ _ _ h => h) (Or.inr ⟨by rfl, rfl⟩) hHeld ?_
              go_frame
              refine held_take (i := 18) (v := undef) rfl (by kernel_rfl) (by kernel_rfl) (by kernel_rfl) (fun _ _ _ h => h) (Or.inr ⟨by rfl, rfl⟩) hHeld ?_
              go_frame
              refine held_take (i := 19) (v := undef) rfl (by kernel_rfl) (by kernel_rfl) (by kernel_rfl) (fun _ _ _ h => h) (Or.inr ⟨by rfl, rfl⟩) hHeld ?_
              go_frame
              refine held_take (i := 20) (v := undef) rfl (by kernel_rfl) (by kernel_rfl) (by kernel_rfl) (fun _ _ _ h => h) (Or.inr ⟨by rfl, rfl⟩) hHeld ?_
              go_frame
              refine held_take (i := 21) (v := undef) rfl (by kernel_rfl) (by kernel_rfl) (by kernel_rfl) (fun _ _ _ h => h) (Or.inr ⟨by rfl, rfl⟩) hHeld ?_
              go_frame
              refine held_take (i := 22) (v := (.bool false)) rfl (by kernel_rfl) (by kernel_rfl) (by kernel_rfl) (fun _ _ _ h => h) (Or.inl ⟨by rfl, fun w' _ => by go_simp⟩) hHeld ?_
              go_frame
              refine held_take (i := 23) (v := (.bool false)) rfl (by kernel_rfl) (by kernel_rfl) (by kernel_rfl) (fun _ _ _ h => h) (Or.inl ⟨by rfl, fun w' _ => by kernel_rfl⟩) hHeld ?_
              go_frame
              refine held_take (i := 24) (v := undef) rfl (by kernel_rfl) (by kernel_rfl) (by kernel_rfl) (fun _ _ _ h => h) (Or.inr ⟨by rfl, rfl⟩) hHeld ?_
              go_frame
              refine held_take (i := 25) (v := undef) rfl (by kernel_rfl) (by kernel_rfl) (by kernel_rfl) (fun _ _ _ h => h) (Or.inr ⟨by rfl, rfl⟩) hHeld ?_
              go_frame
              refine held_take (i := 26) (v := undef) rfl (by kernel_rfl) (by kernel_rfl) (by kernel_rfl) (fun _ _ _ h => h) (Or.inr ⟨by rfl, rfl⟩) hHeld ?_
              go_frame
              refine held_take (i := 27) (v := undef) rfl (by kernel_rfl) (by kernel_rfl) (by kernel_rfl) (fun _ _ _ h => h) (Or.inr ⟨by rfl, rfl⟩) hHeld ?_
              go_frame
              refine held_take (i := 28) (v := undef) rfl (by kernel_rfl) (by kernel_rfl) (by kernel_rfl) (fun _ _ _ h => h) (Or.inr ⟨by rfl, rfl⟩) hHeld ?_
              go_frame
              refine held_take (i := 29) (v := undef) rfl (by kernel_rfl) (by kernel_rfl) (by kernel_rfl) (fun _ _ _ h => h) (Or.inr ⟨by rfl, rfl⟩) hHeld ?_
              go_frame
              refine held_take (i := 30) (v := undef) rfl (by kernel_rfl) (by kernel_rfl) (by kernel_rfl) (fun _ _ _ h => h) (Or.inr ⟨by rfl, rfl⟩) hHeld ?_
              go_frame
              refine held_take (i := 31) (v := (.bool false)) rfl (by kernel_rfl) (by kernel_rfl) (by kernel_rfl) (fun _ _ _ h => h) (Or.inl ⟨by rfl, fun w' _ => by go_simp⟩) hHeld ?_
              go_frame
              refine wpAnyH_done (by kernel_rfl) ?_ _
              have jm := JM.out
              go_wp2_with fail
              go_roundw
              case rel => exact ⟨j + 1, by go_num, JL.out, BZ.out.trans (hHeld.mono BZ.out.size)⟩
              case measure => simp [intOf]; omega
          | false =>
            cases oq with
            | true =>
              refine wp_region_held_drew (S := (fun w' => Below wz.heap.size wz w')) (by kernel_rfl) (Below.drew (Below.refl _ _)) (fun hHeld => ?_)
              generalize hwd : wz.drew = wd at  hHeld ⊢
              clear hwd
              refine held_take (i := 0) (v := (.pointer (some ⟨b, 0, none⟩))) rfl (by kernel_rfl) (by kernel_rfl) (by kernel_rfl) (fun _ _ _ h => h) (Or.inl ⟨by rfl, fun w' _ => by kernel_rfl⟩) hHeld ?_
              go_frame
              refine held_take (i := 1) (v := (.slice (some ⟨go, oo, none⟩) nn co)) rfl (by kernel_rfl) (by kernel_rfl) (by kernel_rfl) (fun _ _ _ h => h) (Or.inl ⟨by rfl, fun w' _ => by kernel_rfl⟩) hHeld ?_
              go_frame
              refine held_take (i := 2) (v := (.int .i64 (j : Int))) rfl (by kernel_rfl) (by kernel_rfl) (by kernel_rfl) (fun _ _ _ h => h) (Or.inl ⟨by rfl, fun w' _ => by kernel_rfl⟩) hHeld ?_
              go_frame
              refine held_take (i := 3) (v := (.pointer (some ⟨go, oo + j * 32, none⟩))) rfl (by kernel_rfl) (by kernel_rfl) (by kernel_rfl) (fun _ _ _ h => h) (Or.inl ⟨by rfl, fun w' _ => by go_simp⟩) hHeld ?_
              go_frame
              refine held_take (i := 4) (v := (.agg cq.toArray)) rfl (by kernel_rfl) (by kernel_rfl) (by kernel_rfl) (fun _ _ _ h => h) (Sha.yieldsIf_load_mid (by rfl) 26 (.tmp 103) rfl go (oo + j * 32) rfl cq _ (fun w' hw' => range_below RQ.out hw') Tryz.underlying26 rfl (by rw [LQ.out]; kernel_rfl)) hHeld ?_
              go_frame
              refine held_take (i := 6) (v := (.pointer (some ⟨b, 0, none⟩))) rfl (by kernel_rfl) (by kernel_rfl) (by kernel_rfl) (fun _ _ _ h => h) (Or.inl ⟨by rfl, fun w' _ => by kernel_rfl⟩) hHeld ?_
              go_frame
              refine held_take (i := 7) (v := (.agg ct.toArray)) rfl (by kernel_rfl) (by kernel_rfl) (by kernel_rfl) (fun _ _ _ h => h) (yieldsIf_load_row (by rfl) 26 (.tmp 14) rfl g14 rfl 26 ct.toArray (0, 0) _ (fun w' hw' => row_below FZ.out hw') Tryz.underlying26 rfl (by rw [SCT.out]; kernel_rfl)) hHeld ?_
              go_frame
              refine held_take (i := 8) (v := (.slice (some ⟨go, oo, none⟩) nn co)) rfl (by kernel_rfl) (by kernel_rfl) (by kernel_rfl) (fun _ _ _ h => h) (Or.inl ⟨by rfl, fun w' _ => by kernel_rfl⟩) hHeld ?_
              go_frame
              refine held_take (i := 9) (v := (.int .i64 (j : Int))) rfl (by kernel_rfl) (by kernel_rfl) (by kernel_rfl) (fun _ _ _ h => h) (Or.inl ⟨by rfl, fun w' _ => by kernel_rfl⟩) hHeld ?_
              go_frame
              refine held_take (i := 10) (v := (.pointer (some ⟨go, oo + j * 32, none⟩))) rfl (by kernel_rfl) (by kernel_rfl) (by kernel_rfl) (fun _ _ _ h => h) (Or.inl ⟨by rfl, fun w' _ => by go_simp⟩) hHeld ?_
              go_frame
              refine held_take (i := 11) (v := (.agg cq.toArray)) rfl (by kernel_rfl) (by kernel_rfl) (by kernel_rfl) (fun _ _ _ h => h) (Sha.yieldsIf_load_mid (by rfl) 26 (.tmp 110) rfl go (oo + j * 32) rfl cq _ (fun w' hw' => range_below RQ.out hw') Tryz.underlying26 rfl (by rw [LQ.out]; kernel_rfl)) hHeld ?_
              go_frame
              refine wpAnyH_ready (rs := [5]) (by kernel_rfl) (by simp) (held_cons rfl (fun K hK => ?_) AllReadyH.nil)
              go_simp
              refine (IQ.out _ (BZ.out.trans (hHeld.mono BZ.out.size))).mono ?_
              rintro e v1 ⟨rfl, bb⟩
              have hv1 := hHeld.trans (bb.mono hHeld.size)
              clear bb hHeld
              go_wp2_with fail
              refine hK.out _ _ hv1 (fun hHeld => ?_)
              clear hK K hv1
              refine wpAnyH_ready (rs := [12]) (by kernel_rfl) (by simp) (held_cons rfl (fun K hK => ?_) AllReadyH.nil)
              go_simp
              refine (OQ.out _ (BZ.out.trans (hHeld.mono BZ.out.size))).mono ?_
              rintro e v2 ⟨rfl, bb⟩
              have hv2 := hHeld.trans (bb.mono hHeld.size)
              clear bb hHeld
              go_wp2_with fail
              refine hK.out _ _ hv2 (fun hHeld => ?_)
              clear hK K hv2
              refine held_take (i := 13) (v := (.bool false)) rfl (by kernel_rfl) (by kernel_rfl) (by kernel_rfl) (fun _ _ _ h => h) (Or.inl ⟨by rfl, fun w' _ => by go_simp⟩) hHeld ?_
              go_frame
              refine held_take (i := 14) (v := (.bool false)) rfl (by kernel_rfl) (by kernel_rfl) (by kernel_rfl) (fun _ _ _ h => h) (Or.inl ⟨by rfl, fun w' _ => by kernel_rfl⟩) hHeld ?_
              go_frame
              refine held_take (i := 15) (v := undef) rfl (by kernel_rfl) (by kernel_rfl) (by kernel_rfl) (fun _ _ _ h => h) (Or.inr ⟨by rfl, rfl⟩) hHeld ?_
              go_frame
              refine held_take (i := 16) (v := undef) rfl (by kernel_rfl) (by kernel_rfl) (by kernel_rfl) (fun _ _ _ h => h) (Or.inr ⟨by rfl, rfl⟩) hHeld ?_
              go_frame
              refine held_take (i := 17) (v := undef) rfl (by kernel_rfl) (by kernel_rfl) (by kernel_rfl) (fun _ _ _ h => h) (Or.inr ⟨by rfl, rfl⟩) hHeld ?_
              go_frame
              refine held_take (i := 18) (v := undef) rfl (by kernel_rfl) (by kernel_rfl) (by kernel_rfl) (fun _ _ _ h => h) (Or.inr ⟨by rfl, rfl⟩) hHeld ?_
              go_frame
              refine held_take (i := 19) (v := undef) rfl (by kernel_rfl) (by kernel_rfl) (by kernel_rfl) (fun _ _ _ h => h) (Or.inr ⟨by rfl, rfl⟩) hHeld ?_
              go_frame
              refine held_take (i := 20) (v := undef) rfl (by kernel_rfl) (by kernel_rfl) (by kernel_rfl) (fun _ _ _ h => h) (Or.inr ⟨by rfl, rfl⟩) hHeld ?_
              go_frame
              refine held_take (i := 21) (v := undef) rfl (by kernel_rfl) (by kernel_rfl) (by kernel_rfl) (fun _ _ _ h => h) (Or.inr ⟨by rfl, rfl⟩) hHeld ?_
              go_frame
              refine held_take (i := 22) (v := (.bool false)) rfl (by kernel_rfl) (by kernel_rfl) (by kernel_rfl) (fun _ _ _ h => h) (Or.inl ⟨by rfl, fun w' _ => by go_simp⟩) hHeld ?_
              go_frame
              refine held_take (i := 23) (v := (.bool false)) rfl (by kernel_rfl) (by kernel_rfl) (by kernel_rfl) (fun _ _ _ h => h) (Or.inl ⟨by rfl, fun w' _ => by kernel_rfl⟩) hHeld ?_
              go_frame
              refine held_take (i := 24) (v := undef) rfl (by kernel_rfl) (by kernel_rfl) (by kernel_rfl) (fun _ _ _ h => h) (Or.inr ⟨by rfl, rfl⟩) hHeld ?_
              go_frame
              refine held_take (i := 25) (v := undef) rfl (by kernel_rfl) (by kernel_rfl) (by kernel_rfl) (fun _ _ _ h => h) (Or.inr ⟨by rfl, rfl⟩) hHeld ?_
              go_frame
              refine held_take (i := 26) (v := undef) rfl (by kernel_rfl) (by kernel_rfl) (by kernel_rfl) (fun _ _ _ h => h) (Or.inr ⟨by rfl, rfl⟩) hHeld ?_
              go_frame
              refine held_take (i := 27) (v := undef) rfl (by kernel_rfl) (by kernel_rfl) (by kernel_rfl) (fun _ _ _ h => h) (Or.inr ⟨by rfl, rfl⟩) hHeld ?_
              go_frame
              refine held_take (i := 28) (v := undef) rfl (by kernel_rfl) (by kernel_rfl) (by kernel_rfl) (fun _ _ _ h => h) (Or.inr ⟨by rfl, rfl⟩) hHeld ?_
              go_frame
              refine held_take (i := 29) (v := undef) rfl (by kernel_rfl) (by kernel_rfl) (by kernel_rfl) (fun _ _ _ h => h) (Or.inr ⟨by rfl, rfl⟩) hHeld ?_
              go_frame
              refine held_take (i := 30) (v := undef) rfl (by kernel_rfl) (by kernel_rfl) (by kernel_rfl) (fun _ _ _ h => h) (Or.inr ⟨by rfl, rfl⟩) hHeld ?_
              go_frame
              refine held_take (i := 31) (v := (.bool false)) rfl (by kernel_rfl) (by kernel_rfl) (by kernel_rfl) (fun _ _ _ h => h) (Or.inl ⟨by rfl, fun w' _ => by go_simp⟩) hHeld ?_
              go_frame
              refine wpAnyH_done (by kernel_rfl) ?_ _
              have jm := JM.out
              go_wp2_with fail
              go_roundw
              case rel => exact ⟨j + 1, by go_num, JL.out, BZ.out.trans (hHeld.mono BZ.out.size)⟩
              case measure => simp [intOf]; omega
            | false =>
              have SQ : Hid (∀ W, Calls Tryz.prog 17 #[.agg ct.toArray, .agg cq.toArray] W fun e w' => e = .returned (.bool true) ∧ Below W.heap.size W w') := by rw [← HQ.out rfl rfl]; exact SQ0.out
              refine wp_region_held_drew (S := (fun w' => Below wz.heap.size wz w')) (by kernel_rfl) (Below.drew (Below.refl _ _)) (fun hHeld => ?_)
              generalize hwd : wz.drew = wd at  hHeld ⊢
              clear hwd
              refine held_take (i := 0) (v := (.pointer (some ⟨b, 0, none⟩))) rfl (by kernel_rfl) (by kernel_rfl) (by kernel_rfl) (fun _ _ _ h => h) (Or.inl ⟨by rfl, fun w' _ => by kernel_rfl⟩) hHeld ?_
              go_frame
              refine held_take (i := 1) (v := (.slice (some ⟨go, oo, none⟩) nn co)) rfl (by kernel_rfl) (by kernel_rfl) (by kernel_rfl) (fun _ _ _ h => h) (Or.inl ⟨by rfl, fun w' _ => by kernel_rfl⟩) hHeld ?_
              go_frame
              refine held_take (i := 2) (v := (.int .i64 (j : Int))) rfl (by kernel_rfl) (by kernel_rfl) (by kernel_rfl) (fun _ _ _ h => h) (Or.inl ⟨by rfl, fun w' _ => by kernel_rfl⟩) hHeld ?_
              go_frame
              refine held_take (i := 3) (v := (.pointer (some ⟨go, oo + j * 32, none⟩))) rfl (by kernel_rfl) (by kernel_rfl) (by kernel_rfl) (fun _ _ _ h => h) (Or.inl ⟨by rfl, fun w' _ => by go_simp⟩) hHeld ?_
              go_frame
              refine held_take (i := 4) (v := (.agg cq.toArray)) rfl (by kernel_rfl) (by kernel_rfl) (by kernel_rfl) (fun _ _ _ h => h) (Sha.yieldsIf_load_mid (by rfl) 26 (.tmp 103) rfl go (oo + j * 32) rfl cq _ (fun w' hw' => range_below RQ.out hw') Tryz.underlying26 rfl (by rw [LQ.out]; kernel_rfl)) hHeld ?_
              go_frame
              refine held_take (i := 6) (v := (.pointer (some ⟨b, 0, none⟩))) rfl (by kernel_rfl) (by kernel_rfl) (by kernel_rfl) (fun _ _ _ h => h) (Or.inl ⟨by rfl, fun w' _ => by kernel_rfl⟩) hHeld ?_
              go_frame
              refine held_take (i := 7) (v := (.agg ct.toArray)) rfl (by kernel_rfl) (by kernel_rfl) (by kernel_rfl) (fun _ _ _ h => h) (yieldsIf_load_row (by rfl) 26 (.tmp 14) rfl g14 rfl 26 ct.toArray (0, 0) _ (fun w' hw' => row_below FZ.out hw') Tryz.underlying26 rfl (by rw [SCT.out]; kernel_rfl)) hHeld ?_
              go_frame
              refine held_take (i := 8) (v := (.slice (some ⟨go, oo, none⟩) nn co)) rfl (by kernel_rfl) (by kernel_rfl) (by kernel_rfl) (fun _ _ _ h => h) (Or.inl ⟨by rfl, fun w' _ => by kernel_rfl⟩) hHeld ?_
              go_frame
              refine held_take (i := 9) (v := (.int .i64 (j : Int))) rfl (by kernel_rfl) (by kernel_rfl) (by kernel_rfl) (fun _ _ _ h => h) (Or.inl ⟨by rfl, fun w' _ => by kernel_rfl⟩) hHeld ?_
              go_frame
              refine held_take (i := 10) (v := (.pointer (some ⟨go, oo + j * 32, none⟩))) rfl (by kernel_rfl) (by kernel_rfl) (by kernel_rfl) (fun _ _ _ h => h) (Or.inl ⟨by rfl, fun w' _ => by go_simp⟩) hHeld ?_
              go_frame
              refine held_take (i := 11) (v := (.agg cq.toArray)) rfl (by kernel_rfl) (by kernel_rfl) (by kernel_rfl) (fun _ _ _ h => h) (Sha.yieldsIf_load_mid (by rfl) 26 (.tmp 110) rfl go (oo + j * 32) rfl cq _ (fun w' hw' => range_below RQ.out hw') Tryz.underlying26 rfl (by rw [LQ.out]; kernel_rfl)) hHeld ?_
              go_frame
              refine wpAnyH_ready (rs := [5]) (by kernel_rfl) (by simp) (held_cons rfl (fun K hK => ?_) AllReadyH.nil)
              go_simp
              refine (IQ.out _ (BZ.out.trans (hHeld.mono BZ.out.size))).mono ?_
              rintro e v1 ⟨rfl, bb⟩
              have hv1 := hHeld.trans (bb.mono hHeld.size)
              clear bb hHeld
              go_wp2_with fail
              refine hK.out _ _ hv1 (fun hHeld => ?_)
              clear hK K hv1
              refine wpAnyH_ready (rs := [12]) (by kernel_rfl) (by simp) (held_cons rfl (fun K hK => ?_) AllReadyH.nil)
              go_simp
              refine (OQ.out _ (BZ.out.trans (hHeld.mono BZ.out.size))).mono ?_
              rintro e v2 ⟨rfl, bb⟩
              have hv2 := hHeld.trans (bb.mono hHeld.size)
              clear bb hHeld
              go_wp2_with fail
              refine hK.out _ _ hv2 (fun hHeld => ?_)
              clear hK K hv2
              refine held_take (i := 13) (v := (.bool true)) rfl (by kernel_rfl) (by kernel_rfl) (by kernel_rfl) (fun _ _ _ h => h) (Or.inl ⟨by rfl, fun w' _ => by go_simp⟩) hHeld ?_
              go_frame
              refine held_take (i := 14) (v := (.bool true)) rfl (by kernel_rfl) (by kernel_rfl) (by kernel_rfl) (fun _ _ _ h => h) (Or.inl ⟨by rfl, fun w' _ => by kernel_rfl⟩) hHeld ?_
              go_frame
              refine held_take (i := 15) (v := (.pointer (some ⟨b, 0, none⟩))) rfl (by kernel_rfl) (by kernel_rfl) (by kernel_rfl) (fun _ _ _ h => h) (Or.inl ⟨by rfl, fun w' _ => by kernel_rfl⟩) hHeld ?_
              go_frame
              refine held_take (i := 16) (v := (.slice (some ⟨go, oo, none⟩) nn co)) rfl (by kernel_rfl) (by kernel_rfl) (by kernel_rfl) (fun _ _ _ h => h) (Or.inl ⟨by rfl, fun w' _ => by kernel_rfl⟩) hHeld ?_
              go_frame
              refine held_take (i := 17) (v := (.int .i64 (j : Int))) rfl (by kernel_rfl) (by kernel_rfl) (by kernel_rfl) (fun _ _ _ h => h) (Or.inl ⟨by rfl, fun w' _ => by kernel_rfl⟩) hHeld ?_
              go_frame
              refine held_take (i := 18) (v := (.pointer (some ⟨go, oo + j * 32, none⟩))) rfl (by kernel_rfl) (by kernel_rfl) (by kernel_rfl) (fun _ _ _ h => h) (Or.inl ⟨by rfl, fun w' _ => by go_simp⟩) hHeld ?_
              go_frame
              refine held_take (i := 19) (v := (.agg cq.toArray)) rfl (by kernel_rfl) (by kernel_rfl) (by kernel_rfl) (fun _ _ _ h => h) (Sha.yieldsIf_load_mid (by rfl) 26 (.tmp 118) rfl go (oo + j * 32) rfl cq _ (fun w' hw' => range_below RQ.out hw') Tryz.underlying26 rfl (by rw [LQ.out]; kernel_rfl)) hHeld ?_
              go_frame
              refine wpAnyH_ready (rs := [20]) (by kernel_rfl) (by simp) (held_cons rfl (fun K hK => ?_) AllReadyH.nil)
              rw [if_pos (by rfl)]
              go_simp
              refine (IQ.out _ (BZ.out.trans (hHeld.mono BZ.out.size))).mono ?_
              rintro e v3 ⟨rfl, bb⟩
              have hv3 := hHeld.trans (bb.mono hHeld.size)
              clear bb hHeld
              go_wp2_with fail
              refine hK.out _ _ hv3 (fun hHeld => ?_)
              clear hK K hv3
              refine held_take (i := 21) (v := (.bool true)) rfl (by kernel_rfl) (by kernel_rfl) (by kernel_rfl) (fun _ _ _ h => h) (Or.inl ⟨by rfl, fun w' _ => by go_simp⟩) hHeld ?_
              go_frame
              refine held_take (i := 22) (v := (.bool true)) rfl (by kernel_rfl) (by kernel_rfl) (by kernel_rfl) (fun _ _ _ h => h) (Or.inl ⟨by rfl, fun w' _ => by go_simp⟩) hHeld ?_
              go_frame
              refine held_take (i := 23) (v := (.bool true)) rfl (by kernel_rfl) (by kernel_rfl) (by kernel_rfl) (fun _ _ _ h => h) (Or.inl ⟨by rfl, fun w' _ => by kernel_rfl⟩) hHeld ?_
              go_frame
              refine held_take (i := 24) (v := (.agg ct.toArray)) rfl (by kernel_rfl) (by kernel_rfl) (by kernel_rfl) (fun _ _ _ h => h) (yieldsIf_load_row (by rfl) 26 (.tmp 14) rfl g14 rfl 26 ct.toArray (0, 0) _ (fun w' hw' => row_below FZ.out hw') Tryz.underlying26 rfl (by rw [SCT.out]; kernel_rfl)) hHeld ?_
              go_frame
              refine held_take (i := 25) (v := (.slice (some ⟨go, oo, none⟩) nn co)) rfl (by kernel_rfl) (by kernel_rfl) (by kernel_rfl) (fun _ _ _ h => h) (Or.inl ⟨by rfl, fun w' _ => by kernel_rfl⟩) hHeld ?_
              go_frame
              refine held_take (i := 26) (v := (.int .i64 (j : Int))) rfl (by kernel_rfl) (by kernel_rfl) (by kernel_rfl) (fun _ _ _ h => h) (Or.inl ⟨by rfl, fun w' _ => by kernel_rfl⟩) hHeld ?_
              go_frame
              refine held_take (i := 27) (v := (.pointer (some ⟨go, oo + j * 32, none⟩))) rfl (by kernel_rfl) (by kernel_rfl) (by kernel_rfl) (fun _ _ _ h => h) (Or.inl ⟨by rfl, fun w' _ => by go_simp⟩) hHeld ?_
              go_frame
              refine held_take (i := 28) (v := (.agg cq.toArray)) rfl (by kernel_rfl) (by kernel_rfl) (by kernel_rfl) (fun _ _ _ h => h) (Sha.yieldsIf_load_mid (by rfl) 26 (.tmp 127) rfl go (oo + j * 32) rfl cq _ (fun w' hw' => range_below RQ.out hw') Tryz.underlying26 rfl (by rw [LQ.out]; kernel_rfl)) hHeld ?_
              go_frame
              refine wpAnyH_ready (rs := [29]) (by kernel_rfl) (by simp) (held_cons rfl (fun K hK => ?_) AllReadyH.nil)
              rw [if_pos (by rfl)]
              go_simp
              refine (SQ.out _).mono ?_
              rintro e v4 ⟨rfl, bb⟩
              have hv4 := hHeld.trans (bb.mono hHeld.size)
              clear bb hHeld
              go_wp2_with fail
              refine hK.out _ _ hv4 (fun hHeld => ?_)
              clear hK K hv4
              refine held_take (i := 30) (v := (.bool false)) rfl (by kernel_rfl) (by kernel_rfl) (by kernel_rfl) (fun _ _ _ h => h) (Or.inl ⟨by rfl, fun w' _ => by go_simp⟩) hHeld ?_
              go_frame
              refine held_take (i := 31) (v := (.bool false)) rfl (by kernel_rfl) (by kernel_rfl) (by kernel_rfl) (fun _ _ _ h => h) (Or.inl ⟨by rfl, fun w' _ => by go_simp⟩) hHeld ?_
              go_frame
              refine wpAnyH_done (by kernel_rfl) ?_ _
              have jm := JM.out
              go_wp2_with fail
              go_roundw
              case rel => exact ⟨j + 1, by go_num, JL.out, BZ.out.trans (hHeld.mono BZ.out.size)⟩
              case measure => simp [intOf]; omega
        · have u0 : ¬ ((j : Int) < (nn : Int)) := by omega
          have FY14 := Lib.hid (row_below F14.out BZ.out)
          have BY := BZ
          clear hj hlt
          go_upto_region 28 with fail
          clear u0
          obtain ⟨r1, hr1, hlr1⟩ := numb_nat x nn n1
          obtain ⟨a2, ha2⟩ : ∃ a2, I[r1]? = some a2 := ⟨_, List.getElem?_eq_getElem (by rw [← NN.out]; exact hlr1)⟩
          have Nr1 := Lib.hid (numb_b x (nn : Int) (by omega) (by have := KM.out; have := NK.out; omega) HX.out)
          rw [hr1] at Nr1
          have Rr1 := Lib.hid (RG8.out r1 a2 ha2)
          have Fa2 := Lib.hid (G8.out.has a2 (List.mem_of_getElem? ha2))
          have LA : Hid ((a2.1.map bV).length = 32) := by show _ = _; rw [List.length_map]; exact a2.2
          have SA : Hid ((a2.1.map bV).toArray.size = 32) := by show _ = _; rw [List.size_toArray]; exact LA.out
          have Oa2 : Hid ((a2.1.map bV).toArray.all (·.oneCell') = true) := bV_one _
          obtain ⟨ca2, hca2⟩ : ∃ c, c = a2.1.map bV := ⟨_, rfl⟩
          have Ea2 := Lib.hid hca2
          rw [← hca2] at Rr1 LA SA Oa2
          have u0 : 0 ≤ (r1 : Int) := by omega
          have u1 : (r1 : Int) < (nn : Int) := by omega
          clear hr1 hlr1 ha2 hca2
          go_wp2_with fail
          refine (Nr1.out wz).mono ?_
          rintro e wzn ⟨rfl, bb⟩
          have FY14 := Lib.hid (row_below FY14.out bb)
          have BY := Lib.hid (BY.out.trans (bb.mono BY.out.size))
          clear bb Nr1
          have Rr1 := Lib.hid (range_below Rr1.out BY.out)
          go_upto_region 29 with ((with_reducible show wpList _ _ _ _ _ _); first | (refine wpList_load_mid rfl 26 (.tmp 137) rfl go (oo + r1 * 32) rfl ca2 _ Rr1.out Tryz.underlying26 rfl (by rw [LA.out]; kernel_rfl) ?_; go_frame) | (refine wpList_store_row rfl 26 (.tmp 16) (.tmp 138) rfl wzn.heap.size ca2.toArray rfl rfl 26 _ (heap_alloc_new _ _) (by rw [SA.out]; kernel_rfl) (by rw [SA.out]; rfl) Oa2.out ?_; go_frame))
          clear u0 u1
          obtain ⟨_, f2, f3, f4⟩ := fill_setup (Below.refl wzn.heap.size wzn) (List.replicate 32 (bV 0)).toArray ca2.toArray 26
          generalize hqwx : World.setRow _ _ _ = wx
          have ewx : World.setRow (wzn.alloc (.cells (List.replicate 32 (bV 0)).toArray 26)) wzn.heap.size ca2.toArray = wx := hqwx
          rw [ewx] at f2 f3 f4
          obtain ⟨g16, hg16⟩ : ∃ g16, g16 = wzn.heap.size := ⟨_, rfl⟩
          rw [← hg16] at f2 ⊢
          have F16 := Lib.hid f2
          have Ng16 : Hid (wzn.heap.size ≤ g16) := by show _ ≤ _; rw [hg16]; exact Nat.le_refl _
          have FY14 := Lib.hid (row_below FY14.out f4)
          have BY := Lib.hid (BY.out.trans (f4.mono BY.out.size))
          clear f2 f3 f4 hqwx ewx hg16
          obtain ⟨r3, hr3, hlr3⟩ := numb_nat y nn n1
          obtain ⟨b2, hb2⟩ : ∃ b2, I[r3]? = some b2 := ⟨_, List.getElem?_eq_getElem (by rw [← NN.out]; exact hlr3)⟩
          have Nr3 := Lib.hid (numb_b y (nn : Int) (by omega) (by have := KM.out; have := NK.out; omega) HY.out)
          rw [hr3] at Nr3
          have Rr3 := Lib.hid (RG8.out r3 b2 hb2)
          have Fb2 := Lib.hid (G8.out.has b2 (List.mem_of_getElem? hb2))
          have LB : Hid ((b2.1.map bV).length = 32) := by show _ = _; rw [List.length_map]; exact b2.2
          have SB : Hid ((b2.1.map bV).toArray.size = 32) := by show _ = _; rw [List.size_toArray]; exact LB.out
          have Ob2 : Hid ((b2.1.map bV).toArray.all (·.oneCell') = true) := bV_one _
          obtain ⟨cb2, hcb2⟩ : ∃ c, c = b2.1.map bV := ⟨_, rfl⟩
          have Eb2 := Lib.hid hcb2
          rw [← hcb2] at Rr3 LB SB Ob2
          have u0 : 0 ≤ (r3 : Int) := by omega
          have u1 : (r3 : Int) < (nn : Int) := by omega
          clear hr3 hlr3 hb2 hcb2
          go_wp2_with fail
          refine (Nr3.out wx).mono ?_
          rintro e wxn ⟨rfl, bb⟩
          have FY14 := Lib.hid (row_below FY14.out bb)
          have BY := Lib.hid (BY.out.trans (bb.mono BY.out.size))
          have F16 := Lib.hid (row_below F16.out bb)
          clear bb Nr3
          have Rr3 := Lib.hid (range_below Rr3.out BY.out)
          go_upto_region 30 with ((with_reducible show wpList _ _ _ _ _ _); first | (refine wpList_load_mid rfl 26 (.tmp 144) rfl go (oo + r3 * 32) rfl cb2 _ Rr3.out Tryz.underlying26 rfl (by rw [LB.out]; kernel_rfl) ?_; go_frame) | (refine wpList_store_row rfl 26 (.tmp 17) (.tmp 145) rfl wxn.heap.size cb2.toArray rfl rfl 26 _ (heap_alloc_new _ _) (by rw [SB.out]; kernel_rfl) (by rw [SB.out]; rfl) Ob2.out ?_; go_frame))
          clear u0 u1
          obtain ⟨_, f2, f3, f4⟩ := fill_setup (Below.refl wxn.heap.size wxn) (List.replicate 32 (bV 0)).toArray cb2.toArray 26
          generalize hqwy : World.setRow _ _ _ = wy
          have ewy : World.setRow (wxn.alloc (.cells (List.replicate 32 (bV 0)).toArray 26)) wxn.heap.size cb2.toArray = wy := hqwy
          rw [ewy] at f2 f3 f4
          obtain ⟨g17, hg17⟩ : ∃ g17, g17 = wxn.heap.size := ⟨_, rfl⟩
          rw [← hg17] at f2 ⊢
          have F17 := Lib.hid f2
          have Ng17 : Hid (wxn.heap.size ≤ g17) := by show _ ≤ _; rw [hg17]; exact Nat.le_refl _
          have FY14 := Lib.hid (row_below FY14.out f4)
          have F16 := Lib.hid (row_below F16.out f4)
          have BY := Lib.hid (BY.out.trans (f4.mono BY.out.size))
          clear f2 f3 f4 hqwy ewy hg17
          have IT : Hid (∀ W, Below w8.heap.size w8 W → Calls Tryz.prog 20 #[(.pointer (some ⟨b, 0, none⟩)), .agg ct.toArray] W fun e w' => e = .returned (.bool false) ∧ Below W.heap.size W w') := by rw [ET.out, ← TP.out]; exact ISA.out top
          obtain ⟨ls, l0⟩ := G8.out.tr.start
          have SF := start_free (B := B) G8.out.tr l0
          have STC : Hid (∀ W, Below w8.heap.size w8 W → Calls Tryz.prog 27 #[(.pointer (some ⟨tb, 0, none⟩))] W fun e w' => e = .returned (.agg (((ndM M).getD 0 ndZ).id.map bV).toArray) ∧ Below W.heap.size W w') := fun W hW => ctstart_any W _ tb tm M (G8.out.ct.below hW) G8.out.tr
          have I0 : Hid (∀ W, Below w8.heap.size w8 W → Calls Tryz.prog 20 #[(.pointer (some ⟨b, 0, none⟩)), .agg (((ndM M).getD 0 ndZ).id.map bV).toArray] W fun e w' => e = .returned (.bool false) ∧ Below W.heap.size W w') := by rw [← SF]; exact ISA.out ⟨_, ls⟩
          obtain ⟨c0, hc0⟩ : ∃ c0, c0 = ((ndM M).getD 0 ndZ).id.map bV := ⟨_, rfl⟩
          rw [← hc0] at STC I0
          have OA0 : Hid (∀ W, Below w8.heap.size w8 W → Calls Tryz.prog 22 #[(.pointer (some ⟨b, 0, none⟩)), .agg ca2.toArray, .agg cb2.toArray] W fun e w' => e = .returned (.bool (overL (ndM M) a2 b2)) ∧ Below W.heap.size W w') := by rw [Ea2.out, Eb2.out]; exact OVA.out a2 b2
          have OB0 : Hid (∀ W, Below w8.heap.size w8 W → Calls Tryz.prog 22 #[(.pointer (some ⟨b, 0, none⟩)), .agg cb2.toArray, .agg ca2.toArray] W fun e w' => e = .returned (.bool (overL (ndM M) b2 a2)) ∧ Below W.heap.size W w') := by rw [Ea2.out, Eb2.out]; exact OVA.out b2 a2
          have SM0 : Hid (∀ W, Calls Tryz.prog 17 #[.agg ca2.toArray, .agg cb2.toArray] W fun e w' => e = .returned (.bool (decide (a2.1 = b2.1))) ∧ Below W.heap.size W w') := by rw [Ea2.out, Eb2.out]; exact fun W => same_any a2.1 b2.1 a2.2 b2.2 W
          have h3 := over_three G8.out.tr Fa2.out Fb2.out
          clear ls l0 SF hc0 ISA OVA BP
          rcases h3 with ⟨h1, h2, h3⟩ | ⟨h1, h2, h3⟩ | ⟨h1, h2, h3⟩
          · have OA1 : Hid _ := OA0.out
            have OB1 : Hid _ := OB0.out
            have SAB : Hid _ := SM0.out
            rw [h1] at OA1
            rw [h2] at OB1
            rw [h3] at SAB
            clear h1 h2 h3 OA0 OB0 SM0
            refine wp_region_held_drew (S := (fun w' => Below wy.heap.size wy w')) (by kernel_rfl) (Below.drew (Below.refl _ _)) (fun hHeld => ?_)
            generalize hwd : wy.drew = wd at  hHeld ⊢
            clear hwd
            refine held_take (i := 0) (v := (.bool true)) rfl (by kernel_rfl) (by kernel_rfl) (by kernel_rfl) (fun _ _ _ h => h) (Or.inl ⟨by rfl, fun w' _ => by kernel_rfl⟩) hHeld ?_
            go_frame
            refine held_take (i := 1) (v := (.bool true)) rfl (by kernel_rfl) (by kernel_rfl) (by kernel_rfl) (fun _ _ _ h => h) (Or.inl ⟨by rfl, fun w' _ => by kernel_rfl⟩) hHeld ?_
            go_frame
            refine held_take (i := 2) (v := (.pointer (some ⟨b, 0, none⟩))) rfl (by kernel_rfl) (by kernel_rfl) (by kernel_rfl) (fun _ _ _ h => h) (Or.inl ⟨by rfl, fun w' _ => by kernel_rfl⟩) hHeld ?_
            go_frame
            refine held_take (i := 3) (v := (.agg ct.toArray)) rfl (by kernel_rfl) (by kernel_rfl) (by kernel_rfl) (fun _ _ _ h => h) (yieldsIf_load_row (by rfl) 26 (.tmp 14) rfl g14 rfl 26 ct.toArray (0, 0) _ (fun w' hw' => row_below FY14.out hw') Tryz.underlying26 rfl (by rw [SCT.out]; kernel_rfl)) hHeld ?_
            go_frame
            refine wpAnyH_ready (rs := [4]) (by kernel_rfl) (by simp) (held_cons rfl (fun K hK => ?_) AllReadyH.nil)
            rw [if_pos (by rfl)]
            go_simp
            refine (IT.out _ (BY.out.trans (hHeld.mono BY.out.size))).mono ?_
            rintro e v1 ⟨rfl, bb⟩
            have hv1 := hHeld.trans (bb.mono hHeld.size)
            clear bb hHeld
            go_wp2_with fail
            refine hK.out _ _ hv1 (fun hHeld => ?_)
            clear hK K hv1
            refine held_take (i := 5) (v := (.bool true)) rfl (by kernel_rfl) (by kernel_rfl) (by kernel_rfl) (fun _ _ _ h => h) (Or.inl ⟨by rfl, fun w' _ => by go_simp⟩) hHeld ?_
            go_frame
            refine held_take (i := 6) (v := (.bool true)) rfl (by kernel_rfl) (by kernel_rfl) (by kernel_rfl) (fun _ _ _ h => h) (Or.inl ⟨by rfl, fun w' _ => by go_simp⟩) hHeld ?_
            go_frame
            refine held_take (i := 7) (v := (.bool true)) rfl (by kernel_rfl) (by kernel_rfl) (by kernel_rfl) (fun _ _ _ h => h) (Or.inl ⟨by rfl, fun w' _ => by kernel_rfl⟩) hHeld ?_
            go_frame
            refine held_take (i := 8) (v := (.pointer (some ⟨b, 0, none⟩))) rfl (by kernel_rfl) (by kernel_rfl) (by kernel_rfl) (fun _ _ _ h => h) (Or.inl ⟨by rfl, fun w' _ => by kernel_rfl⟩) hHeld ?_
            go_frame
            refine held_take (i := 9) (v := (.pointer (some ⟨tb, 0, none⟩))) rfl (by kernel_rfl) (by kernel_rfl) (by kernel_rfl) (fun _ _ _ h => h) (Or.inl ⟨by rfl, fun w' _ => by kernel_rfl⟩) hHeld ?_
            go_frame
            refine wpAnyH_ready (rs := [10]) (by kernel_rfl) (by simp) (held_cons rfl (fun K hK => ?_) AllReadyH.nil)
            rw [if_pos (by rfl)]
            go_simp
            refine (STC.out _ (BY.out.trans (hHeld.mono BY.out.size))).mono ?_
            rintro e v2 ⟨rfl, bb⟩
            have hv2 := hHeld.trans (bb.mono hHeld.size)
            clear bb hHeld
            go_wp2_with fail
            refine hK.out _ _ hv2 (fun hHeld => ?_)
            clear hK K hv2
            refine wpAnyH_ready (rs := [11]) (by kernel_rfl) (by simp) (held_cons rfl (fun K hK => ?_) AllReadyH.nil)
            rw [if_pos (by rfl)]
            go_simp
            refine (I0.out _ (BY.out.trans (hHeld.mono BY.out.size))).mono ?_
            rintro e v3 ⟨rfl, bb⟩
            have hv3 := hHeld.trans (bb.mono hHeld.size)
            clear bb hHeld
            go_wp2_with fail
            refine hK.out _ _ hv3 (fun hHeld => ?_)
            clear hK K hv3
            refine held_take (i := 12) (v := (.bool true)) rfl (by kernel_rfl) (by kernel_rfl) (by kernel_rfl) (fun _ _ _ h => h) (Or.inl ⟨by rfl, fun w' _ => by go_simp⟩) hHeld ?_
            go_frame
            refine held_take (i := 13) (v := (.bool true)) rfl (by kernel_rfl) (by kernel_rfl) (by kernel_rfl) (fun _ _ _ h => h) (Or.inl ⟨by rfl, fun w' _ => by go_simp⟩) hHeld ?_
            go_frame
            refine held_take (i := 14) (v := (.bool true)) rfl (by kernel_rfl) (by kernel_rfl) (by kernel_rfl) (fun _ _ _ h => h) (Or.inl ⟨by rfl, fun w' _ => by kernel_rfl⟩) hHeld ?_
            go_frame
            refine held_take (i := 15) (v := (.pointer (some ⟨b, 0, none⟩))) rfl (by kernel_rfl) (by kernel_rfl) (by kernel_rfl) (fun _ _ _ h => h) (Or.inl ⟨by rfl, fun w' _ => by kernel_rfl⟩) hHeld ?_
            go_frame
            refine held_take (i := 16) (v := (.agg ca2.toArray)) rfl (by kernel_rfl) (by kernel_rfl) (by kernel_rfl) (fun _ _ _ h => h) (yieldsIf_load_row (by rfl) 26 (.tmp 16) rfl g16 rfl 26 ca2.toArray (0, 0) _ (fun w' hw' => row_below F16.out hw') Tryz.underlying26 rfl (by rw [SA.out]; kernel_rfl)) hHeld ?_
            go_frame
            refine held_take (i := 17) (v := (.agg cb2.toArray)) rfl (by kernel_rfl) (by kernel_rfl) (by kernel_rfl) (fun _ _ _ h => h) (yieldsIf_load_row (by rfl) 26 (.tmp 17) rfl g17 rfl 26 cb2.toArray (0, 0) _ (fun w' hw' => row_below F17.out hw') Tryz.underlying26 rfl (by rw [SB.out]; kernel_rfl)) hHeld ?_
            go_frame
            refine held_take (i := 25) (v := (.agg ca2.toArray)) rfl (by kernel_rfl) (by kernel_rfl) (by kernel_rfl) (fun _ _ _ h => h) (yieldsIf_load_row (by rfl) 26 (.tmp 16) rfl g16 rfl 26 ca2.toArray (0, 0) _ (fun w' hw' => row_below F16.out hw') Tryz.underlying26 rfl (by rw [SA.out]; kernel_rfl)) hHeld ?_
            go_frame
            refine held_take (i := 26) (v := (.agg cb2.toArray)) rfl (by kernel_rfl) (by kernel_rfl) (by kernel_rfl) (fun _ _ _ h => h) (yieldsIf_load_row (by rfl) 26 (.tmp 17) rfl g17 rfl 26 cb2.toArray (0, 0) _ (fun w' hw' => row_below F17.out hw') Tryz.underlying26 rfl (by rw [SB.out]; kernel_rfl)) hHeld ?_
            go_frame
            refine wpAnyH_ready (rs := [18]) (by kernel_rfl) (by simp) (held_cons rfl (fun K hK => ?_) AllReadyH.nil)
            rw [if_pos (by rfl)]
            go_simp
            refine (OA1.out _ (BY.out.trans (hHeld.mono BY.out.size))).mono ?_
            rintro e v4 ⟨rfl, bb⟩
            have hv4 := hHeld.trans (bb.mono hHeld.size)
            clear bb hHeld
            go_wp2_with fail
            refine hK.out _ _ hv4 (fun hHeld => ?_)
            clear hK K hv4
            refine held_take (i := 19) (v := (.bool true)) rfl (by kernel_rfl) (by kernel_rfl) (by kernel_rfl) (fun _ _ _ h => h) (Or.inl ⟨by rfl, fun w' _ => by kernel_rfl⟩) hHeld ?_
            go_frame
            refine held_take (i := 20) (v := undef) rfl (by kernel_rfl) (by kernel_rfl) (by kernel_rfl) (fun _ _ _ h => h) (Or.inr ⟨by rfl, rfl⟩) hHeld ?_
            go_frame
            refine held_take (i := 21) (v := undef) rfl (by kernel_rfl) (by kernel_rfl) (by kernel_rfl) (fun _ _ _ h => h) (Or.inr ⟨by rfl, rfl⟩) hHeld ?_
            go_frame
            refine held_take (i := 22) (v := undef) rfl (by kernel_rfl) (by kernel_rfl) (by kernel_rfl) (fun _ _ _ h => h) (Or.inr ⟨by rfl, rfl⟩) hHeld ?_
            go_frame
            refine held_take (i := 23) (v := undef) rfl (by kernel_rfl) (by kernel_rfl) (by kernel_rfl) (fun _ _ _ h => h) (Or.inr ⟨by rfl, rfl⟩) hHeld ?_
            go_frame
            refine held_take (i := 24) (v := (.bool true)) rfl (by kernel_rfl) (by kernel_rfl) (by kernel_rfl) (fun _ _ _ h => h) (Or.inl ⟨by rfl, fun w' _ => by go_simp⟩) hHeld ?_
            go_frame
            refine wpAnyH_ready (rs := [27]) (by kernel_rfl) (by simp) (held_cons rfl (fun K hK => ?_) AllReadyH.nil)
            rw [if_pos (by rfl)]
            go_simp
            refine (SAB.out _).mono ?_
            rintro e v5 ⟨rfl, bb⟩
            have hv5 := hHeld.trans (bb.mono hHeld.size)
            clear bb hHeld
            go_wp2_with fail
            refine hK.out _ _ hv5 (fun hHeld => ?_)
            clear hK K hv5
            refine held_take (i := 28) (v := (.bool true)) rfl (by kernel_rfl) (by kernel_rfl) (by kernel_rfl) (fun _ _ _ h => h) (Or.inl ⟨by rfl, fun w' _ => by go_simp⟩) hHeld ?_
            go_frame
            refine held_take (i := 29) (v := (.bool true)) rfl (by kernel_rfl) (by kernel_rfl) (by kernel_rfl) (fun _ _ _ h => h) (Or.inl ⟨by rfl, fun w' _ => by go_simp⟩) hHeld ?_
            go_frame
            refine held_take (i := 30) (v := (.bool true)) rfl (by kernel_rfl) (by kernel_rfl) (by kernel_rfl) (fun _ _ _ h => h) (Or.inl ⟨by rfl, fun w' _ => by kernel_rfl⟩) hHeld ?_
            go_frame
            refine held_take (i := 31) (v := (.pointer (some ⟨b, 0, none⟩))) rfl (by kernel_rfl) (by kernel_rfl) (by kernel_rfl) (fun _ _ _ h => h) (Or.inl ⟨by rfl, fun w' _ => by kernel_rfl⟩) hHeld ?_
            go_frame
            refine held_take (i := 32) (v := (.agg ca2.toArray)) rfl (by kernel_rfl) (by kernel_rfl) (by kernel_rfl) (fun _ _ _ h => h) (yieldsIf_load_row (by rfl) 26 (.tmp 16) rfl g16 rfl 26 ca2.toArray (0, 0) _ (fun w' hw' => row_below F16.out hw') Tryz.underlying26 rfl (by rw [SA.out]; kernel_rfl)) hHeld ?_
            go_frame
            refine held_take (i := 33) (v := (.agg cb2.toArray)) rfl (by kernel_rfl) (by kernel_rfl) (by kernel_rfl) (fun _ _ _ h => h) (yieldsIf_load_row (by rfl) 26 (.tmp 17) rfl g17 rfl 26 cb2.toArray (0, 0) _ (fun w' hw' => row_below F17.out hw') Tryz.underlying26 rfl (by rw [SB.out]; kernel_rfl)) hHeld ?_
            go_frame
            refine wpAnyH_ready (rs := [34]) (by kernel_rfl) (by simp) (held_cons rfl (fun K hK => ?_) AllReadyH.nil)
            rw [if_pos (by rfl)]
            go_simp
            refine (OA1.out _ (BY.out.trans (hHeld.mono BY.out.size))).mono ?_
            rintro e v6 ⟨rfl, bb⟩
            have hv6 := hHeld.trans (bb.mono hHeld.size)
            clear bb hHeld
            go_wp2_with fail
            refine hK.out _ _ hv6 (fun hHeld => ?_)
            clear hK K hv6
            refine held_take (i := 35) (v := (.bool true)) rfl (by kernel_rfl) (by kernel_rfl) (by kernel_rfl) (fun _ _ _ h => h) (Or.inl ⟨by rfl, fun w' _ => by kernel_rfl⟩) hHeld ?_
            go_frame
            refine held_take (i := 36) (v := (.pointer (some ⟨b, 0, none⟩))) rfl (by kernel_rfl) (by kernel_rfl) (by kernel_rfl) (fun _ _ _ h => h) (Or.inl ⟨by rfl, fun w' _ => by kernel_rfl⟩) hHeld ?_
            go_frame
            refine held_take (i := 37) (v := (.agg cb2.toArray)) rfl (by kernel_rfl) (by kernel_rfl) (by kernel_rfl) (fun _ _ _ h => h) (yieldsIf_load_row (by rfl) 26 (.tmp 17) rfl g17 rfl 26 cb2.toArray (0, 0) _ (fun w' hw' => row_below F17.out hw') Tryz.underlying26 rfl (by rw [SB.out]; kernel_rfl)) hHeld ?_
            go_frame
            refine held_take (i := 38) (v := (.agg ca2.toArray)) rfl (by kernel_rfl) (by kernel_rfl) (by kernel_rfl) (fun _ _ _ h => h) (yieldsIf_load_row (by rfl) 26 (.tmp 16) rfl g16 rfl 26 ca2.toArray (0, 0) _ (fun w' hw' => row_below F16.out hw') Tryz.underlying26 rfl (by rw [SA.out]; kernel_rfl)) hHeld ?_
            go_frame
            refine wpAnyH_ready (rs := [39]) (by kernel_rfl) (by simp) (held_cons rfl (fun K hK => ?_) AllReadyH.nil)
            rw [if_pos (by rfl)]
            go_simp
            refine (OB1.out _ (BY.out.trans (hHeld.mono BY.out.size))).mono ?_
            rintro e v7 ⟨rfl, bb⟩
            have hv7 := hHeld.trans (bb.mono hHeld.size)
            clear bb hHeld
            go_wp2_with fail
            refine hK.out _ _ hv7 (fun hHeld => ?_)
            clear hK K hv7
            refine held_take (i := 40) (v := (.bool false)) rfl (by kernel_rfl) (by kernel_rfl) (by kernel_rfl) (fun _ _ _ h => h) (Or.inl ⟨by rfl, fun w' _ => by go_simp⟩) hHeld ?_
            go_frame
            refine held_take (i := 41) (v := (.bool true)) rfl (by kernel_rfl) (by kernel_rfl) (by kernel_rfl) (fun _ _ _ h => h) (Or.inl ⟨by rfl, fun w' _ => by go_simp⟩) hHeld ?_
            go_frame
            refine held_take (i := 42) (v := (.bool true)) rfl (by kernel_rfl) (by kernel_rfl) (by kernel_rfl) (fun _ _ _ h => h) (Or.inl ⟨by rfl, fun w' _ => by go_simp⟩) hHeld ?_
            go_frame
            refine held_take (i := 43) (v := (.bool true)) rfl (by kernel_rfl) (by kernel_rfl) (by kernel_rfl) (fun _ _ _ h => h) (Or.inl ⟨by rfl, fun w' _ => by kernel_rfl⟩) hHeld ?_
            go_frame
            refine wpAnyH_done (by kernel_rfl) ?_ _
            go_wp2_with fail
            go_ret
            exact ⟨rfl, (BW.out.trans (BY.out.mono BW.out.size)).trans (hHeld.mono (Nat.le_trans BW.out.size BY.out.size))⟩
          · have OA1 : Hid _ := OA0.out
            have OB1 : Hid _ := OB0.out
            have SAB : Hid _ := SM0.out
            rw [h1] at OA1
            rw [h2] at OB1
            rw [h3] at SAB
            clear h1 h2 h3 OA0 OB0 SM0
            refine wp_region_held_drew (S := (fun w' => Below wy.heap.size wy w')) (by kernel_rfl) (Below.drew (Below.refl _ _)) (fun hHeld => ?_)
            generalize hwd : wy.drew = wd at  hHeld ⊢
            clear hwd
            refine held_take (i := 0) (v := (.bool true)) rfl (by kernel_rfl) (by kernel_rfl) (by kernel_rfl) (fun _ _ _ h => h) (Or.inl ⟨by rfl, fun w' _ => by kernel_rfl⟩) hHeld ?_
            go_frame
            refine held_take (i := 1) (v := (.bool true)) rfl (by kernel_rfl) (by kernel_rfl) (by kernel_rfl) (fun _ _ _ h => h) (Or.inl ⟨by rfl, fun w' _ => by kernel_rfl⟩) hHeld ?_
            go_frame
            refine held_take (i := 2) (v := (.pointer (some ⟨b, 0, none⟩))) rfl (by kernel_rfl) (by kernel_rfl) (by kernel_rfl) (fun _ _ _ h => h) (Or.inl ⟨by rfl, fun w' _ => by kernel_rfl⟩) hHeld ?_
            go_frame
            refine held_take (i := 3) (v := (.agg ct.toArray)) rfl (by kernel_rfl) (by kernel_rfl) (by kernel_rfl) (fun _ _ _ h => h) (yieldsIf_load_row (by rfl) 26 (.tmp 14) rfl g14 rfl 26 ct.toArray (0, 0) _ (fun w' hw' => row_below FY14.out hw') Tryz.underlying26 rfl (by rw [SCT.out]; kernel_rfl)) hHeld ?_
            go_frame
            refine wpAnyH_ready (rs := [4]) (by kernel_rfl) (by simp) (held_cons rfl (fun K hK => ?_) AllReadyH.nil)
            rw [if_pos (by rfl)]
            go_simp
            refine (IT.out _ (BY.out.trans (hHeld.mono BY.out.size))).mono ?_
            rintro e v1 ⟨rfl, bb⟩
            have hv1 := hHeld.trans (bb.mono hHeld.size)
            clear bb hHeld
            go_wp2_with fail
            refine hK.out _ _ hv1 (fun hHeld => ?_)
            clear hK K hv1
            refine held_take (i := 5) (v := (.bool true)) rfl (by kernel_rfl) (by kernel_rfl) (by kernel_rfl) (fun _ _ _ h => h) (Or.inl ⟨by rfl, fun w' _ => by go_simp⟩) hHeld ?_
            go_frame
            refine held_take (i := 6) (v := (.bool true)) rfl (by kernel_rfl) (by kernel_rfl) (by kernel_rfl) (fun _ _ _ h => h) (Or.inl ⟨by rfl, fun w' _ => by go_simp⟩) hHeld ?_
            go_frame
            refine held_take (i := 7) (v := (.bool true)) rfl (by kernel_rfl) (by kernel_rfl) (by kernel_rfl) (fun _ _ _ h => h) (Or.inl ⟨by rfl, fun w' _ => by kernel_rfl⟩) hHeld ?_
            go_frame
            refine held_take (i := 8) (v := (.pointer (some ⟨b, 0, none⟩))) rfl (by kernel_rfl) (by kernel_rfl) (by kernel_rfl) (fun _ _ _ h => h) (Or.inl ⟨by rfl, fun w' _ => by kernel_rfl⟩) hHeld ?_
            go_frame
            refine held_take (i := 9) (v := (.pointer (some ⟨tb, 0, none⟩))) rfl (by kernel_rfl) (by kernel_rfl) (by kernel_rfl) (fun _ _ _ h => h) (Or.inl ⟨by rfl, fun w' _ => by kernel_rfl⟩) hHeld ?_
            go_frame
            refine wpAnyH_ready (rs := [10]) (by kernel_rfl) (by simp) (held_cons rfl (fun K hK => ?_) AllReadyH.nil)
            rw [if_pos (by rfl)]
            go_simp
            refine (STC.out _ (BY.out.trans (hHeld.mono BY.out.size))).mono ?_
            rintro e v2 ⟨rfl, bb⟩
            have hv2 := hHeld.trans (bb.mono hHeld.size)
            clear bb hHeld
            go_wp2_with fail
            refine hK.out _ _ hv2 (fun hHeld => ?_)
            clear hK K hv2
            refine wpAnyH_ready (rs := [11]) (by kernel_rfl) (by simp) (held_cons rfl (fun K hK => ?_) AllReadyH.nil)
            rw [if_pos (by rfl)]
            go_simp
            refine (I0.out _ (BY.out.trans (hHeld.mono BY.out.size))).mono ?_
            rintro e v3 ⟨rfl, bb⟩
            have hv3 := hHeld.trans (bb.mono hHeld.size)
            clear bb hHeld
            go_wp2_with fail
            refine hK.out _ _ hv3 (fun hHeld => ?_)
            clear hK K hv3
            refine held_take (i := 12) (v := (.bool true)) rfl (by kernel_rfl) (by kernel_rfl) (by kernel_rfl) (fun _ _ _ h => h) (Or.inl ⟨by rfl, fun w' _ => by go_simp⟩) hHeld ?_
            go_frame
            refine held_take (i := 13) (v := (.bool true)) rfl (by kernel_rfl) (by kernel_rfl) (by kernel_rfl) (fun _ _ _ h => h) (Or.inl ⟨by rfl, fun w' _ => by go_simp⟩) hHeld ?_
            go_frame
            refine held_take (i := 14) (v := (.bool true)) rfl (by kernel_rfl) (by kernel_rfl) (by kernel_rfl) (fun _ _ _ h => h) (Or.inl ⟨by rfl, fun w' _ => by kernel_rfl⟩) hHeld ?_
            go_frame
            refine held_take (i := 15) (v := (.pointer (some ⟨b, 0, none⟩))) rfl (by kernel_rfl) (by kernel_rfl) (by kernel_rfl) (fun _ _ _ h => h) (Or.inl ⟨by rfl, fun w' _ => by kernel_rfl⟩) hHeld ?_
            go_frame
            refine held_take (i := 16) (v := (.agg ca2.toArray)) rfl (by kernel_rfl) (by kernel_rfl) (by kernel_rfl) (fun _ _ _ h => h) (yieldsIf_load_row (by rfl) 26 (.tmp 16) rfl g16 rfl 26 ca2.toArray (0, 0) _ (fun w' hw' => row_below F16.out hw') Tryz.underlying26 rfl (by rw [SA.out]; kernel_rfl)) hHeld ?_
            go_frame
            refine held_take (i := 17) (v := (.agg cb2.toArray)) rfl (by kernel_rfl) (by kernel_rfl) (by kernel_rfl) (fun _ _ _ h => h) (yieldsIf_load_row (by rfl) 26 (.tmp 17) rfl g17 rfl 26 cb2.toArray (0, 0) _ (fun w' hw' => row_below F17.out hw') Tryz.underlying26 rfl (by rw [SB.out]; kernel_rfl)) hHeld ?_
            go_frame
            refine held_take (i := 25) (v := (.agg ca2.toArray)) rfl (by kernel_rfl) (by kernel_rfl) (by kernel_rfl) (fun _ _ _ h => h) (yieldsIf_load_row (by rfl) 26 (.tmp 16) rfl g16 rfl 26 ca2.toArray (0, 0) _ (fun w' hw' => row_below F16.out hw') Tryz.underlying26 rfl (by rw [SA.out]; kernel_rfl)) hHeld ?_
            go_frame
            refine held_take (i := 26) (v := (.agg cb2.toArray)) rfl (by kernel_rfl) (by kernel_rfl) (by kernel_rfl) (fun _ _ _ h => h) (yieldsIf_load_row (by rfl) 26 (.tmp 17) rfl g17 rfl 26 cb2.toArray (0, 0) _ (fun w' hw' => row_below F17.out hw') Tryz.underlying26 rfl (by rw [SB.out]; kernel_rfl)) hHeld ?_
            go_frame
            refine wpAnyH_ready (rs := [18]) (by kernel_rfl) (by simp) (held_cons rfl (fun K hK => ?_) AllReadyH.nil)
            rw [if_pos (by rfl)]
            go_simp
            refine (OA1.out _ (BY.out.trans (hHeld.mono BY.out.size))).mono ?_
            rintro e v4 ⟨rfl, bb⟩
            have hv4 := hHeld.trans (bb.mono hHeld.size)
            clear bb hHeld
            go_wp2_with fail
            refine hK.out _ _ hv4 (fun hHeld => ?_)
            clear hK K hv4
            refine held_take (i := 19) (v := (.bool false)) rfl (by kernel_rfl) (by kernel_rfl) (by kernel_rfl) (fun _ _ _ h => h) (Or.inl ⟨by rfl, fun w' _ => by kernel_rfl⟩) hHeld ?_
            go_frame
            refine held_take (i := 20) (v := (.pointer (some ⟨b, 0, none⟩))) rfl (by kernel_rfl) (by kernel_rfl) (by kernel_rfl) (fun _ _ _ h => h) (Or.inl ⟨by rfl, fun w' _ => by kernel_rfl⟩) hHeld ?_
            go_frame
            refine held_take (i := 21) (v := (.agg cb2.toArray)) rfl (by kernel_rfl) (by kernel_rfl) (by kernel_rfl) (fun _ _ _ h => h) (yieldsIf_load_row (by rfl) 26 (.tmp 17) rfl g17 rfl 26 cb2.toArray (0, 0) _ (fun w' hw' => row_below F17.out hw') Tryz.underlying26 rfl (by rw [SB.out]; kernel_rfl)) hHeld ?_
            go_frame
            refine held_take (i := 22) (v := (.agg ca2.toArray)) rfl (by kernel_rfl) (by kernel_rfl) (by kernel_rfl) (fun _ _ _ h => h) (yieldsIf_load_row (by rfl) 26 (.tmp 16) rfl g16 rfl 26 ca2.toArray (0, 0) _ (fun w' hw' => row_below F16.out hw') Tryz.underlying26 rfl (by rw [SA.out]; kernel_rfl)) hHeld ?_
            go_frame
            refine wpAnyH_ready (rs := [23]) (by kernel_rfl) (by simp) (held_cons rfl (fun K hK => ?_) AllReadyH.nil)
            rw [if_pos (by rfl)]
            go_simp
            refine (OB1.out _ (BY.out.trans (hHeld.mono BY.out.size))).mono ?_
            rintro e v5 ⟨rfl, bb⟩
            have hv5 := hHeld.trans (bb.mono hHeld.size)
            clear bb hHeld
            go_wp2_with fail
            refine hK.out _ _ hv5 (fun hHeld => ?_)
            clear hK K hv5
            refine held_take (i := 24) (v := (.bool true)) rfl (by kernel_rfl) (by kernel_rfl) (by kernel_rfl) (fun _ _ _ h => h) (Or.inl ⟨by rfl, fun w' _ => by go_simp⟩) hHeld ?_
            go_frame
            refine wpAnyH_ready (rs := [27]) (by kernel_rfl) (by simp) (held_cons rfl (fun K hK => ?_) AllReadyH.nil)
            rw [if_pos (by rfl)]
            go_simp
            refine (SAB.out _).mono ?_
            rintro e v6 ⟨rfl, bb⟩
            have hv6 := hHeld.trans (bb.mono hHeld.size)
            clear bb hHeld
            go_wp2_with fail
            refine hK.out _ _ hv6 (fun hHeld => ?_)
            clear hK K hv6
            refine held_take (i := 28) (v := (.bool true)) rfl (by kernel_rfl) (by kernel_rfl) (by kernel_rfl) (fun _ _ _ h => h) (Or.inl ⟨by rfl, fun w' _ => by go_simp⟩) hHeld ?_
            go_frame
            refine held_take (i := 29) (v := (.bool true)) rfl (by kernel_rfl) (by kernel_rfl) (by kernel_rfl) (fun _ _ _ h => h) (Or.inl ⟨by rfl, fun w' _ => by go_simp⟩) hHeld ?_
            go_frame
            refine held_take (i := 30) (v := (.bool true)) rfl (by kernel_rfl) (by kernel_rfl) (by kernel_rfl) (fun _ _ _ h => h) (Or.inl ⟨by rfl, fun w' _ => by kernel_rfl⟩) hHeld ?_
            go_frame
            refine held_take (i := 31) (v := (.pointer (some ⟨b, 0, none⟩))) rfl (by kernel_rfl) (by kernel_rfl) (by kernel_rfl) (fun _ _ _ h => h) (Or.inl ⟨by rfl, fun w' _ => by kernel_rfl⟩) hHeld ?_
            go_frame
            refine held_take (i := 32) (v := (.agg ca2.toArray)) rfl (by kernel_rfl) (by kernel_rfl) (by kernel_rfl) (fun _ _ _ h => h) (yieldsIf_load_row (by rfl) 26 (.tmp 16) rfl g16 rfl 26 ca2.toArray (0, 0) _ (fun w' hw' => row_below F16.out hw') Tryz.underlying26 rfl (by rw [SA.out]; kernel_rfl)) hHeld ?_
            go_frame
            refine held_take (i := 33) (v := (.agg cb2.toArray)) rfl (by kernel_rfl) (by kernel_rfl) (by kernel_rfl) (fun _ _ _ h => h) (yieldsIf_load_row (by rfl) 26 (.tmp 17) rfl g17 rfl 26 cb2.toArray (0, 0) _ (fun w' hw' => row_below F17.out hw') Tryz.underlying26 rfl (by rw [SB.out]; kernel_rfl)) hHeld ?_
            go_frame
            refine wpAnyH_ready (rs := [34]) (by kernel_rfl) (by simp) (held_cons rfl (fun K hK => ?_) AllReadyH.nil)
            rw [if_pos (by rfl)]
            go_simp
            refine (OA1.out _ (BY.out.trans (hHeld.mono BY.out.size))).mono ?_
            rintro e v7 ⟨rfl, bb⟩
            have hv7 := hHeld.trans (bb.mono hHeld.size)
            clear bb hHeld
            go_wp2_with fail
            refine hK.out _ _ hv7 (fun hHeld => ?_)
            clear hK K hv7
            refine held_take (i := 35) (v := (.bool false)) rfl (by kernel_rfl) (by kernel_rfl) (by kernel_rfl) (fun _ _ _ h => h) (Or.inl ⟨by rfl, fun w' _ => by kernel_rfl⟩) hHeld ?_
            go_frame
            refine held_take (i := 36) (v := undef) rfl (by kernel_rfl) (by kernel_rfl) (by kernel_rfl) (fun _ _ _ h => h) (Or.inr ⟨by rfl, rfl⟩) hHeld ?_
            go_frame
            refine held_take (i := 37) (v := undef) rfl (by kernel_rfl) (by kernel_rfl) (by kernel_rfl) (fun _ _ _ h => h) (Or.inr ⟨by rfl, rfl⟩) hHeld ?_
            go_frame
            refine held_take (i := 38) (v := undef) rfl (by kernel_rfl) (by kernel_rfl) (by kernel_rfl) (fun _ _ _ h => h) (Or.inr ⟨by rfl, rfl⟩) hHeld ?_
            go_frame
            refine held_take (i := 39) (v := undef) rfl (by kernel_rfl) (by kernel_rfl) (by kernel_rfl) (fun _ _ _ h => h) (Or.inr ⟨by rfl, rfl⟩) hHeld ?_
            go_frame
            refine held_take (i := 40) (v := (.bool false)) rfl (by kernel_rfl) (by kernel_rfl) (by kernel_rfl) (fun _ _ _ h => h) (Or.inl ⟨by rfl, fun w' _ => by go_simp⟩) hHeld ?_
            go_frame
            refine held_take (i := 41) (v := (.bool true)) rfl (by kernel_rfl) (by kernel_rfl) (by kernel_rfl) (fun _ _ _ h => h) (Or.inl ⟨by rfl, fun w' _ => by go_simp⟩) hHeld ?_
            go_frame
            refine held_take (i := 42) (v := (.bool true)) rfl (by kernel_rfl) (by kernel_rfl) (by kernel_rfl) (fun _ _ _ h => h) (Or.inl ⟨by rfl, fun w' _ => by go_simp⟩) hHeld ?_
            go_frame
            refine held_take (i := 43) (v := (.bool true)) rfl (by kernel_rfl) (by kernel_rfl) (by kernel_rfl) (fun _ _ _ h => h) (Or.inl ⟨by rfl, fun w' _ => by kernel_rfl⟩) hHeld ?_
            go_frame
            refine wpAnyH_done (by kernel_rfl) ?_ _
            go_wp2_with fail
            go_ret
            exact ⟨rfl, (BW.out.trans (BY.out.mono BW.out.size)).trans (hHeld.mono (Nat.le_trans BW.out.size BY.out.size))⟩
          · have OA1 : Hid _ := OA0.out
            have OB1 : Hid _ := OB0.out
            have SAB : Hid _ := SM0.out
            rw [h1] at OA1
            rw [h2] at OB1
            rw [h3] at SAB
            clear h1 h2 h3 OA0 OB0 SM0
            refine wp_region_held_drew (S := (fun w' => Below wy.heap.size wy w')) (by kernel_rfl) (Below.drew (Below.refl _ _)) (fun hHeld => ?_)
            generalize hwd : wy.drew = wd at  hHeld ⊢
            clear hwd
            refine held_take (i := 0) (v := (.bool true)) rfl (by kernel_rfl) (by kernel_rfl) (by kernel_rfl) (fun _ _ _ h => h) (Or.inl ⟨by rfl, fun w' _ => by kernel_rfl⟩) hHeld ?_
            go_frame
            refine held_take (i := 1) (v := (.bool true)) rfl (by kernel_rfl) (by kernel_rfl) (by kernel_rfl) (fun _ _ _ h => h) (Or.inl ⟨by rfl, fun w' _ => by kernel_rfl⟩) hHeld ?_
            go_frame
            refine held_take (i := 2) (v := (.pointer (some ⟨b, 0, none⟩))) rfl (by kernel_rfl) (by kernel_rfl) (by kernel_rfl) (fun _ _ _ h => h) (Or.inl ⟨by rfl, fun w' _ => by kernel_rfl⟩) hHeld ?_
            go_frame
            refine held_take (i := 3) (v := (.agg ct.toArray)) rfl (by kernel_rfl) (by kernel_rfl) (by kernel_rfl) (fun _ _ _ h => h) (yieldsIf_load_row (by rfl) 26 (.tmp 14) rfl g14 rfl 26 ct.toArray (0, 0) _ (fun w' hw' => row_below FY14.out hw') Tryz.underlying26 rfl (by rw [SCT.out]; kernel_rfl)) hHeld ?_
            go_frame
            refine wpAnyH_ready (rs := [4]) (by kernel_rfl) (by simp) (held_cons rfl (fun K hK => ?_) AllReadyH.nil)
            rw [if_pos (by rfl)]
            go_simp
            refine (IT.out _ (BY.out.trans (hHeld.mono BY.out.size))).mono ?_
            rintro e v1 ⟨rfl, bb⟩
            have hv1 := hHeld.trans (bb.mono hHeld.size)
            clear bb hHeld
            go_wp2_with fail
            refine hK.out _ _ hv1 (fun hHeld => ?_)
            clear hK K hv1
            refine held_take (i := 5) (v := (.bool true)) rfl (by kernel_rfl) (by kernel_rfl) (by kernel_rfl) (fun _ _ _ h => h) (Or.inl ⟨by rfl, fun w' _ => by go_simp⟩) hHeld ?_
            go_frame
            refine held_take (i := 6) (v := (.bool true)) rfl (by kernel_rfl) (by kernel_rfl) (by kernel_rfl) (fun _ _ _ h => h) (Or.inl ⟨by rfl, fun w' _ => by go_simp⟩) hHeld ?_
            go_frame
            refine held_take (i := 7) (v := (.bool true)) rfl (by kernel_rfl) (by kernel_rfl) (by kernel_rfl) (fun _ _ _ h => h) (Or.inl ⟨by rfl, fun w' _ => by kernel_rfl⟩) hHeld ?_
            go_frame
            refine held_take (i := 8) (v := (.pointer (some ⟨b, 0, none⟩))) rfl (by kernel_rfl) (by kernel_rfl) (by kernel_rfl) (fun _ _ _ h => h) (Or.inl ⟨by rfl, fun w' _ => by kernel_rfl⟩) hHeld ?_
            go_frame
            refine held_take (i := 9) (v := (.pointer (some ⟨tb, 0, none⟩))) rfl (by kernel_rfl) (by kernel_rfl) (by kernel_rfl) (fun _ _ _ h => h) (Or.inl ⟨by rfl, fun w' _ => by kernel_rfl⟩) hHeld ?_
            go_frame
            refine wpAnyH_ready (rs := [10]) (by kernel_rfl) (by simp) (held_cons rfl (fun K hK => ?_) AllReadyH.nil)
            rw [if_pos (by rfl)]
            go_simp
            refine (STC.out _ (BY.out.trans (hHeld.mono BY.out.size))).mono ?_
            rintro e v2 ⟨rfl, bb⟩
            have hv2 := hHeld.trans (bb.mono hHeld.size)
            clear bb hHeld
            go_wp2_with fail
            refine hK.out _ _ hv2 (fun hHeld => ?_)
            clear hK K hv2
            refine wpAnyH_ready (rs := [11]) (by kernel_rfl) (by simp) (held_cons rfl (fun K hK => ?_) AllReadyH.nil)
            rw [if_pos (by rfl)]
            go_simp
            refine (I0.out _ (BY.out.trans (hHeld.mono BY.out.size))).mono ?_
            rintro e v3 ⟨rfl, bb⟩
            have hv3 := hHeld.trans (bb.mono hHeld.size)
            clear bb hHeld
            go_wp2_with fail
            refine hK.out _ _ hv3 (fun hHeld => ?_)
            clear hK K hv3
            refine held_take (i := 12) (v := (.bool true)) rfl (by kernel_rfl) (by kernel_rfl) (by kernel_rfl) (fun _ _ _ h => h) (Or.inl ⟨by rfl, fun w' _ => by go_simp⟩) hHeld ?_
            go_frame
            refine held_take (i := 13) (v := (.bool true)) rfl (by kernel_rfl) (by kernel_rfl) (by kernel_rfl) (fun _ _ _ h => h) (Or.inl ⟨by rfl, fun w' _ => by go_simp⟩) hHeld ?_
            go_frame
            refine held_take (i := 14) (v := (.bool true)) rfl (by kernel_rfl) (by kernel_rfl) (by kernel_rfl) (fun _ _ _ h => h) (Or.inl ⟨by rfl, fun w' _ => by kernel_rfl⟩) hHeld ?_
            go_frame
            refine held_take (i := 15) (v := (.pointer (some ⟨b, 0, none⟩))) rfl (by kernel_rfl) (by kernel_rfl) (by kernel_rfl) (fun _ _ _ h => h) (Or.inl ⟨by rfl, fun w' _ => by kernel_rfl⟩) hHeld ?_
            go_frame
            refine held_take (i := 16) (v := (.agg ca2.toArray)) rfl (by kernel_rfl) (by kernel_rfl) (by kernel_rfl) (fun _ _ _ h => h) (yieldsIf_load_row (by rfl) 26 (.tmp 16) rfl g16 rfl 26 ca2.toArray (0, 0) _ (fun w' hw' => row_below F16.out hw') Tryz.underlying26 rfl (by rw [SA.out]; kernel_rfl)) hHeld ?_
            go_frame
            refine held_take (i := 17) (v := (.agg cb2.toArray)) rfl (by kernel_rfl) (by kernel_rfl) (by kernel_rfl) (fun _ _ _ h => h) (yieldsIf_load_row (by rfl) 26 (.tmp 17) rfl g17 rfl 26 cb2.toArray (0, 0) _ (fun w' hw' => row_below F17.out hw') Tryz.underlying26 rfl (by rw [SB.out]; kernel_rfl)) hHeld ?_
            go_frame
            refine held_take (i := 25) (v := (.agg ca2.toArray)) rfl (by kernel_rfl) (by kernel_rfl) (by kernel_rfl) (fun _ _ _ h => h) (yieldsIf_load_row (by rfl) 26 (.tmp 16) rfl g16 rfl 26 ca2.toArray (0, 0) _ (fun w' hw' => row_below F16.out hw') Tryz.underlying26 rfl (by rw [SA.out]; kernel_rfl)) hHeld ?_
            go_frame
            refine held_take (i := 26) (v := (.agg cb2.toArray)) rfl (by kernel_rfl) (by kernel_rfl) (by kernel_rfl) (fun _ _ _ h => h) (yieldsIf_load_row (by rfl) 26 (.tmp 17) rfl g17 rfl 26 cb2.toArray (0, 0) _ (fun w' hw' => row_below F17.out hw') Tryz.underlying26 rfl (by rw [SB.out]; kernel_rfl)) hHeld ?_
            go_frame
            refine wpAnyH_ready (rs := [18]) (by kernel_rfl) (by simp) (held_cons rfl (fun K hK => ?_) AllReadyH.nil)
            rw [if_pos (by rfl)]
            go_simp
            refine (OA1.out _ (BY.out.trans (hHeld.mono BY.out.size))).mono ?_
            rintro e v4 ⟨rfl, bb⟩
            have hv4 := hHeld.trans (bb.mono hHeld.size)
            clear bb hHeld
            go_wp2_with fail
            refine hK.out _ _ hv4 (fun hHeld => ?_)
            clear hK K hv4
            refine held_take (i := 19) (v := (.bool false)) rfl (by kernel_rfl) (by kernel_rfl) (by kernel_rfl) (fun _ _ _ h => h) (Or.inl ⟨by rfl, fun w' _ => by kernel_rfl⟩) hHeld ?_
            go_frame
            refine held_take (i := 20) (v := (.pointer (some ⟨b, 0, none⟩))) rfl (by kernel_rfl) (by kernel_rfl) (by kernel_rfl) (fun _ _ _ h => h) (Or.inl ⟨by rfl, fun w' _ => by kernel_rfl⟩) hHeld ?_
            go_frame
            refine held_take (i := 21) (v := (.agg cb2.toArray)) rfl (by kernel_rfl) (by kernel_rfl) (by kernel_rfl) (fun _ _ _ h => h) (yieldsIf_load_row (by rfl) 26 (.tmp 17) rfl g17 rfl 26 cb2.toArray (0, 0) _ (fun w' hw' => row_below F17.out hw') Tryz.underlying26 rfl (by rw [SB.out]; kernel_rfl)) hHeld ?_
            go_frame
            refine held_take (i := 22) (v := (.agg ca2.toArray)) rfl (by kernel_rfl) (by kernel_rfl) (by kernel_rfl) (fun _ _ _ h => h) (yieldsIf_load_row (by rfl) 26 (.tmp 16) rfl g16 rfl 26 ca2.toArray (0, 0) _ (fun w' hw' => row_below F16.out hw') Tryz.underlying26 rfl (by rw [SA.out]; kernel_rfl)) hHeld ?_
            go_frame
            refine wpAnyH_ready (rs := [23]) (by kernel_rfl) (by simp) (held_cons rfl (fun K hK => ?_) AllReadyH.nil)
            rw [if_pos (by rfl)]
            go_simp
            refine (OB1.out _ (BY.out.trans (hHeld.mono BY.out.size))).mono ?_
            rintro e v5 ⟨rfl, bb⟩
            have hv5 := hHeld.trans (bb.mono hHeld.size)
            clear bb hHeld
            go_wp2_with fail
            refine hK.out _ _ hv5 (fun hHeld => ?_)
            clear hK K hv5
            refine held_take (i := 24) (v := (.bool false)) rfl (by kernel_rfl) (by kernel_rfl) (by kernel_rfl) (fun _ _ _ h => h) (Or.inl ⟨by rfl, fun w' _ => by go_simp⟩) hHeld ?_
            go_frame
            refine wpAnyH_ready (rs := [27]) (by kernel_rfl) (by simp) (held_cons rfl (fun K hK => ?_) AllReadyH.nil)
            rw [if_pos (by rfl)]
            go_simp
            refine (SAB.out _).mono ?_
            rintro e v6 ⟨rfl, bb⟩
            have hv6 := hHeld.trans (bb.mono hHeld.size)
            clear bb hHeld
            go_wp2_with fail
            refine hK.out _ _ hv6 (fun hHeld => ?_)
            clear hK K hv6
            refine held_take (i := 28) (v := (.bool true)) rfl (by kernel_rfl) (by kernel_rfl) (by kernel_rfl) (fun _ _ _ h => h) (Or.inl ⟨by rfl, fun w' _ => by go_simp⟩) hHeld ?_
            go_frame
            refine held_take (i := 29) (v := (.bool true)) rfl (by kernel_rfl) (by kernel_rfl) (by kernel_rfl) (fun _ _ _ h => h) (Or.inl ⟨by rfl, fun w' _ => by go_simp⟩) hHeld ?_
            go_frame
            refine held_take (i := 30) (v := (.bool true)) rfl (by kernel_rfl) (by kernel_rfl) (by kernel_rfl) (fun _ _ _ h => h) (Or.inl ⟨by rfl, fun w' _ => by kernel_rfl⟩) hHeld ?_
            go_frame
            refine held_take (i := 31) (v := (.pointer (some ⟨b, 0, none⟩))) rfl (by kernel_rfl) (by kernel_rfl) (by kernel_rfl) (fun _ _ _ h => h) (Or.inl ⟨by rfl, fun w' _ => by kernel_rfl⟩) hHeld ?_
            go_frame
            refine held_take (i := 32) (v := (.agg ca2.toArray)) rfl (by kernel_rfl) (by kernel_rfl) (by kernel_rfl) (fun _ _ _ h => h) (yieldsIf_load_row (by rfl) 26 (.tmp 16) rfl g16 rfl 26 ca2.toArray (0, 0) _ (fun w' hw' => row_below F16.out hw') Tryz.underlying26 rfl (by rw [SA.out]; kernel_rfl)) hHeld ?_
            go_frame
            refine held_take (i := 33) (v := (.agg cb2.toArray)) rfl (by kernel_rfl) (by kernel_rfl) (by kernel_rfl) (fun _ _ _ h => h) (yieldsIf_load_row (by rfl) 26 (.tmp 17) rfl g17 rfl 26 cb2.toArray (0, 0) _ (fun w' hw' => row_below F17.out hw') Tryz.underlying26 rfl (by rw [SB.out]; kernel_rfl)) hHeld ?_
            go_frame
            refine wpAnyH_ready (rs := [34]) (by kernel_rfl) (by simp) (held_cons rfl (fun K hK => ?_) AllReadyH.nil)
            rw [if_pos (by rfl)]
            go_simp
            refine (OA1.out _ (BY.out.trans (hHeld.mono BY.out.size))).mono ?_
            rintro e v7 ⟨rfl, bb⟩
            have hv7 := hHeld.trans (bb.mono hHeld.size)
            clear bb hHeld
            go_wp2_with fail
            refine hK.out _ _ hv7 (fun hHeld => ?_)
            clear hK K hv7
            refine held_take (i := 35) (v := (.bool false)) rfl (by kernel_rfl) (by kernel_rfl) (by kernel_rfl) (fun _ _ _ h => h) (Or.inl ⟨by rfl, fun w' _ => by kernel_rfl⟩) hHeld ?_
            go_frame
            refine held_take (i := 36) (v := undef) rfl (by kernel_rfl) (by kernel_rfl) (by kernel_rfl) (fun _ _ _ h => h) (Or.inr ⟨by rfl, rfl⟩) hHeld ?_
            go_frame
            refine held_take (i := 37) (v := undef) rfl (by kernel_rfl) (by kernel_rfl) (by kernel_rfl) (fun _ _ _ h => h) (Or.inr ⟨by rfl, rfl⟩) hHeld ?_
            go_frame
            refine held_take (i := 38) (v := undef) rfl (by kernel_rfl) (by kernel_rfl) (by kernel_rfl) (fun _ _ _ h => h) (Or.inr ⟨by rfl, rfl⟩) hHeld ?_
            go_frame
            refine held_take (i := 39) (v := undef) rfl (by kernel_rfl) (by kernel_rfl) (by kernel_rfl) (fun _ _ _ h => h) (Or.inr ⟨by rfl, rfl⟩) hHeld ?_
            go_frame
            refine held_take (i := 40) (v := (.bool false)) rfl (by kernel_rfl) (by kernel_rfl) (by kernel_rfl) (fun _ _ _ h => h) (Or.inl ⟨by rfl, fun w' _ => by go_simp⟩) hHeld ?_
            go_frame
            refine held_take (i := 41) (v := (.bool true)) rfl (by kernel_rfl) (by kernel_rfl) (by kernel_rfl) (fun _ _ _ h => h) (Or.inl ⟨by rfl, fun w' _ => by go_simp⟩) hHeld ?_
            go_frame
            refine held_take (i := 42) (v := (.bool true)) rfl (by kernel_rfl) (by kernel_rfl) (by kernel_rfl) (fun _ _ _ h => h) (Or.inl ⟨by rfl, fun w' _ => by go_simp⟩) hHeld ?_
            go_frame
            refine held_take (i := 43) (v := (.bool true)) rfl (by kernel_rfl) (by kernel_rfl) (by kernel_rfl) (fun _ _ _ h => h) (Or.inl ⟨by rfl, fun w' _ => by kernel_rfl⟩) hHeld ?_
            go_frame
            refine wpAnyH_done (by kernel_rfl) ?_ _
            go_wp2_with fail
            go_ret
            exact ⟨rfl, (BW.out.trans (BY.out.mono BW.out.size)).trans (hHeld.mono (Nat.le_trans BW.out.size BY.out.size))⟩
end Go.Proofs.YtdhcjaflbfpalaaGreatDoor.Sha
