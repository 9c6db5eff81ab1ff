/-
  The law that of branches of so much work the greatest is best, and marked the next one is, down to the start: it answers true. Conditions: the numbers lie where the slice says; three errors and the table of the rounds' words are there.
-/
import Derived.Deep.DeepCutAuto
import Derived.Test.YtdhcjaflbfpalaaGreatDoorMh21
namespace Go.Proofs.YtdhcjaflbfpalaaGreatDoor.Sha
open Go Go.RowKit
def goZ (z : Nat → Int) (i : Nat) : Int := if z i < 0 then -(z i + 1) else z i
def goW (z : Nat → Int) (i : Nat) : Nat := 1 + (if goZ z i < 0 then 0 else ((goZ z i).tmod 5).toNat)
theorem goW_ok (z : Nat → Int) : WkOk (goW z) := fun i => by
  unfold goW
  split
  · omega
  · have h1 := Int.tmod_lt_of_pos (goZ z i) (show (0 : Int) < 5 by decide)
    have h2 := Int.tmod_nonneg 5 (show 0 ≤ goZ z i by omega)
    omega
def GoI1 (z : Nat → Int) (w0 : World) (tb tm b bm mm m : Nat) (vo vi : Value) (wr : World) : Prop :=
  ∃ (k : Nat) (ov : Value) (M : List CNd), ov = vo ∧ vi = .int .i64 (k : Int) ∧ k ≤ m ∧ ndM M = goT (goW z) k ∧ BoG w0 wr tb tm b bm mm ov (.slice none 0 0) M [] [] #[] ((List.range k).map (goO (goW z)))
def GoI2 (z : Nat → Int) (w0 : World) (tb tm b bm mm m g11 : Nat) (ov : Value) (vi : Value) (wr : World) : Prop :=
  ∃ (j : Nat) (lv : Value) (M : List CNd) (B Mt : IdSet) (d : Array Rk) (P : List Nat) (last : OH), vi = .int .i64 (j : Int) ∧ j ≤ m ∧ P.length = j ∧ P.Nodup ∧ (∀ p ∈ P, p < m) ∧ ndM M = goG (goW z) m P ∧ MkS (goW z) B P ∧ BoG w0 wr tb tm b bm mm ov lv M B Mt d ((List.range m).map (goO (goW z))) ∧
    wr.heap[g11]? = some (.cells (last.1.map bV).toArray 26 (0, 0)) ∧ (0 < j → ∃ a, a < m ∧ a ∈ P ∧ last = goO (goW z) a ∧ TopS (goW z) m P a)
theorem goO_id (w : Nat → Nat) (i : Nat) : (goO w i).1 = goC i (w i) := rfl
theorem goN_id (w : Nat → Nat) (i : Nat) : (goN w i).id = goC i (w i) := rfl
theorem found_bo {L : List TNd} {w : Nat → Nat} {n : Nat} {P : List Nat} (tr : TrL L) (hL : L = goG w n P) {i : Nat} (hi : i < n) : 0 ≤ findT L (goO w i).1 := by
  subst hL
  rw [goO_id]
  exact found_br tr hi
theorem go_over {L : List TNd} {w : Nat → Nat} {n : Nat} {P : List Nat} (tr : TrL (goG w n P)) (hL : L = goG w n P) {a c : Nat} (ha : a < n) (hc : c < n) : overL L (goO w a) (goO w c) = overK ⟨1 + w a, goO w a⟩ ⟨1 + w c, goO w c⟩ := by
  subst hL
  rw [over_found tr (found_bo tr rfl ha) (found_bo tr rfl hc), rnk_br tr ha, rnk_br tr hc]
theorem BoG.boxed {w0 w w' : World} {tb tm b bm mm : Nat} {ov lv : Value} {M : List CNd} {B Mt : IdSet} {d : Array Rk} {I : List OH} (h : BoG w0 w tb tm b bm mm ov lv M B Mt d I) {g : Nat} {cs : Array Value} {T : TypeId} {fr : Nat × Nat} (hc : w.heap[g]? = some (.cells cs T fr)) (h1 : T ≠ 73) (h2 : T ≠ 70) (h3 : 67 ≠ T) (h4 : T ≠ 83) (h5 : 78 ≠ T) 
    (hg0 : w0.heap.size ≤ g) (hg : w.grownBy w' (some g)) (hno : ov.ownBlock ≠ some g) : BoG w0 w' tb tm b bm mm ov lv M B Mt d I := by
  have hk : Kps (fun j => j ≠ g) w w' := Kps.grown hg fun j _ hf e => hf (Option.some.inj e)
  have ty : ∀ {j : Nat} {cs' : Array Value} {T' : TypeId} {fr' : Nat × Nat}, w.heap[j]? = some (.cells cs' T' fr') → T ≠ T' → j ≠ g := fun hj hT e => by
    rw [e, hc] at hj
    exact hT (Obj.cells.inj (Option.some.inj hj)).2.1
  refine ⟨h.ct.kps hk (ty h.ct.box h1) (fun e => h.ct.mp.ne' hc e.symm) (fun c hc' => ?_), h.tr, h.hung, h.mks.kps hk (ty h.mks.box h4) (fun e => h.mks.bad.ne' hc e.symm) (fun e => h.mks.met.ne' hc e.symm) (fun q hq e => own_ne' h.mks.row.1 hc h5 (by rw [hq, e])), h.mi, h.ne, ⟨own_kpsB h.ids.1 hk (fun q hq e => hno (by rw [hq, e])), h.ids.2⟩, h.has, h.old.grown hg h.old.size (fun k hk => by cases hk; exact hg0)⟩
  obtain ⟨i, hi⟩ := h.ct.at_ hc'
  exact ⟨ty (h.ct.node i c hi) h2, fun q hq e => own_ne' (h.ct.kid i c hi).1 hc h3 (by rw [hq, e])⟩
set_option maxHeartbeats 8000000 in
set_option maxRecDepth 100000 in
theorem bestgoes_main (E : Nat → Addr) (w : World) (sp : Option Addr) (m cap : Nat) (z : Nat → Int) (hk : KTab w) (hE : CE w E) (hz : SrcZ w sp m z) :
    Calls Tryz.prog 5 #[.slice sp m cap] w fun e w' => e = .returned (.bool true) ∧ Below w.heap.size w w' := by
  have HK := Lib.hid hk
  have HE := Lib.hid hE
  have HZ := Lib.hid hz
  clear hk hE hz
  obtain ⟨i0, hi, hz0, hz1, hz2⟩ := info_parts info_hash
  go_enter Tryz.func5, Tryz.ntmps5
  go_wp2_with fail
  refine (bofirst_any w HK.out).mono ?_
  rintro e w1 ⟨rfl, bb⟩
  have B1 := Lib.hid bb
  clear bb
  by_cases h15 : 15 < m
  · have q : (15 : Int) < (m : Int) := by omega
    go_wp2_with fail
    go_ret
    exact ⟨rfl, B1.out⟩
  have q : ¬ (15 : Int) < (m : Int) := by omega
  have HM : Hid (m ≤ 15) := by show _ ≤ _; omega
  clear h15
  go_wp2_with fail
  clear q
  refine (rstart_any w1).mono ?_
  rintro e w2 ⟨v, rfl, hb, bb⟩
  obtain ⟨hh, tv, rfl, _⟩ := hb
  have hf := field_head startX.head hh tv
  have B2 := Lib.hid (B1.out.trans (bb.mono B1.out.size))
  have NW : Hid (∀ W, Below w.heap.size w W → Calls Tryz.prog 8 #[.agg (hdL startX.head).toArray] W fun e w' => ∃ b mb g, e = .returned (.pointer (some ⟨b, 0, none⟩)) ∧ CtAt w' W.heap.size b mb [⟨stT startX.head, g, .slice none 0 0⟩] ∧ Below W.heap.size W w') := fun W hW => ctnew_any W startX.head hh (HK.out.below hW)
  have TS : Hid (TrL (ndM [⟨stT startX.head, 0, .slice none 0 0⟩])) := stT_tr hh
  have LI : Hid ((hdId startX.head).length = 32) := hdId_length _
  have LC : Hid ((hdL startX.head).toArray.size = 68) := by show _ = _; rw [List.size_toArray]; exact hdL_length hh
  have OC : Hid ((hdL startX.head).toArray.all (·.oneCell') = true) := all_oneCell_toArray (hdL_one' _)
  obtain ⟨cb, hcb⟩ : ∃ cb, cb = blL startX.head tv := ⟨_, rfl⟩
  rw [← hcb] at hf ⊢
  obtain ⟨cs, hcs⟩ : ∃ cs, cs = hdL startX.head := ⟨_, rfl⟩
  rw [← hcs] at hf NW LC OC
  clear bb hh hcb hcs B1
  go_upto_region 7 with ((with_reducible show wpList _ _ _ _ _ _); (refine wpList_store_row rfl 28 (.tmp 4) (.tmp 23) rfl w2.heap.size cs.toArray rfl rfl 28 _ (heap_alloc_new _ _) (by rw [LC.out]; kernel_rfl) (by rw [LC.out]; rfl) OC.out ?_; go_frame))
  clear hf
  obtain ⟨_, f2, f3, f4⟩ := fill_setup (Below.refl w2.heap.size w2) (hdL hdZ).toArray cs.toArray 28
  generalize hqw3 : World.setRow _ _ _ = w3
  have ew3 : World.setRow (w2.alloc (.cells (hdL hdZ).toArray 28)) w2.heap.size cs.toArray = w3 := hqw3
  rw [ew3] at f2 f3 f4
  obtain ⟨g4, hg4⟩ : ∃ g4, g4 = w2.heap.size := ⟨_, rfl⟩
  rw [← hg4] at f2 ⊢
  have F4 := Lib.hid f2
  have Ng4 : Hid (w2.heap.size ≤ g4) := by show _ ≤ _; rw [hg4]; exact Nat.le_refl _
  have B3 := Lib.hid (B2.out.trans (f4.mono B2.out.size))
  clear f2 f3 f4 hqw3 ew3 hg4
  clear B2 Ng4
  go_wp2_with ((with_reducible show wpList _ _ _ _ _ _); (refine wpList_load_row rfl 28 (.tmp 4) rfl g4 rfl 28 cs.toArray (0, 0) _ F4.out Tryz.underlying28 rfl (by rw [LC.out]; kernel_rfl) ?_; go_frame))
  refine (NW.out w3 B3.out).mono ?_
  rintro e w4 ⟨tb, tm, g, rfl, hct, bb⟩
  have HT := Lib.hid (hct.lower B3.out.size)
  have TR : Hid (TrL (ndM [⟨stT startX.head, g, .slice none 0 0⟩])) := TS.out
  have HU : Hid (Hung (ndM [⟨stT startX.head, g, .slice none 0 0⟩])) := fun i x hx hp => by
    cases i with
    | zero => cases hx; exact absurd hp (show ¬ (0 : Int) ≤ -1 by decide)
    | succ i => cases hx
  have B4 := Lib.hid (B3.out.trans (bb.mono B3.out.size))
  have TM := Lib.hid (show tm < w4.heap.size from hct.mp.lt)
  clear hct bb NW TS B3 F4 LC OC
  go_wp2_with fail
  refine (bknew_any w4 tb).mono ?_
  rintro e w5 ⟨b, bm, mm, rfl, hm, bb⟩
  have G0 : Hid (BoG w w5 tb tm b bm mm (.slice none 0 0) (.slice none 0 0) [⟨stT startX.head, g, .slice none 0 0⟩] [] [] #[] []) :=
    ⟨HT.out.below bb, TR.out, HU.out, hm.lower B4.out.size, MkI.none _, ⟨by have := TM.out; have := hm.lo.2.1; omega, by have := TM.out; have := hm.lo.2.2; omega⟩, RwOwn.nil _ _ _ _, fun q hq => (by cases hq), B4.out.trans (bb.mono B4.out.size)⟩
  have N0 : Hid (ndM [⟨stT startX.head, g, .slice none 0 0⟩] = goT (goW z) 0) := rfl
  clear hm bb HT TM B4 HU TR
  have WK := Lib.hid (goW_ok z)
  go_wp2_with fail
  go_loopw [7, 8] (fun vo vi wr => GoI1 z w tb tm b bm mm m vo vi wr) (fun _ vi _ => m - (intOf vi).toNat)
  case atStart => exact ⟨0, _, _, rfl, rfl, Nat.zero_le _, N0.out, G0.out⟩
  case round =>
    clear G0 N0
    obtain ⟨k, ov, M, rfl, rfl, hk, hL, hg⟩ := hrel
    have GR := Lib.hid hg
    have EL := Lib.hid hL
    have KM : Hid (k ≤ 15) := Nat.le_trans hk HM.out
    clear hg hL
    by_cases hlt : k < m
    · obtain ⟨zb, zo, hsp, hzc⟩ := HZ.out (by omega)
      subst hsp
      have hzk := hzc k hlt
      have z0 := cell_below hzk.1 GR.out.old
      have ZB := Lib.hid hzk.2
      have KLT : Hid (k + 1 ≤ m) := hlt
      have p0 : 0 ≤ (k : Int) := by omega
      have p1 : (k : Int) < (m : Int) := by omega
      have ZE : Hid (goZ z k = if z k < 0 then -(z k + 1) else z k) := rfl
      obtain ⟨Z, hZ⟩ : ∃ Z, Z = goZ z k := ⟨_, rfl⟩
      rw [← hZ] at ZE
      have ZEQ := Lib.hid hZ
      obtain ⟨zk, hzz⟩ : ∃ zk, zk = z k := ⟨_, rfl⟩
      rw [← hzz] at z0 ZB ZE
      clear hzc hzk hk hZ hzz
      go_upto_if 43 with fail
      go_cut [9] (fun v9 wx => v9 = .int .i64 Z ∧ wr = wx)
      case first =>
        have zb2 := ZB.out
        by_cases hz0 : zk < 0
        · have a1 : IntKind.i64.wrap (zk + 1) = zk + 1 := IntWalk.i64_in _ (by omega)
          have a2 : IntKind.i64.wrap (-(zk + 1)) = -(zk + 1) := IntWalk.i64_in _ (by omega)
          have ze := ZE.out
          rw [if_pos hz0] at ze
          have ZE2 := Lib.hid ze
          clear ze
          go_wp2_with fail
          go_meet
          case rel => exact ⟨congrArg (Value.int .i64) (by have := ZE2.out; omega), rfl⟩
        · have ze := ZE.out
          rw [if_neg hz0] at ze
          have ZE2 := Lib.hid ze
          clear ze
          go_wp2_with fail
          go_meet
          case rel => exact ⟨congrArg (Value.int .i64) (by have := ZE2.out; omega), rfl⟩
      case rest =>
        obtain ⟨rfl, rfl⟩ := hcut
        have zp : 0 ≤ Z := by
          have h1 := ZE.out
          have h2 := ZB.out
          by_cases hz0 : zk < 0
          · rw [if_pos hz0] at h1; omega
          · rw [if_neg hz0] at h1; omega
        obtain ⟨t5, ht5⟩ : ∃ t5 : Nat, Z.tmod 5 = (t5 : Int) := ⟨(Z.tmod 5).toNat, by have := Int.tmod_nonneg 5 zp; omega⟩
        have lt5 : t5 < 5 := by have := Int.tmod_lt_of_pos Z (show (0 : Int) < 5 by decide); omega
        have WE : Hid (goW z k = 1 + t5) := by
          show _ = _
          unfold goW
          rw [← ZEQ.out, if_neg (by omega), ht5, Int.toNat_natCast]
        clear z0 ZE ZEQ ZB
        have START : Hid (Calls Tryz.prog 27 #[(.pointer (some ⟨tb, 0, none⟩))] wr fun e w' => e = .returned (.agg ((hdId startX.head).map bV).toArray) ∧ Below wr.heap.size wr w') := by
          have h := ctstart_any wr _ tb tm M GR.out.ct GR.out.tr
          rw [EL.out] at h
          exact h
        have CH : Hid (HdOk (goH k (goW z k))) := ⟨by show k ≤ _; have := KM.out; omega, hdId_length _, rfl, (show (0 : Nat) ≤ 4294967295 by decide), by show goW z k ≤ _; have := (WK.out k).2; omega, (show (0 : Nat) ≤ 4294967295 by decide)⟩
        have BH : Hid (Tryz.prog.built 28 [(0, .int .u32 (k : Int)), (1, .agg ((hdId startX.head).map bV).toArray), (4, .int .u32 (1 + (t5 : Int)))] = some (hdL (goH k (goW z k))).toArray) := by
          have h := built_hd3 k (goW z k) (hdId startX.head) (hdId_length _)
          have e : ((goW z k : Nat) : Int) = 1 + (t5 : Int) := by have := WE.out; omega
          rw [e] at h
          exact h
        have AE : Hid (addE (ndM M) (goH k (goW z k)) = 0 ∧ ndM M ++ [nxT (ndM M) (goH k (goW z k))] = goT (goW z) (k + 1)) := by
          have tr := GR.out.tr
          rw [EL.out] at tr ⊢
          have h := go_next WK.out (by have := KLT.out; have := HM.out; omega) tr
          exact ⟨h.1, by rw [h.2, goT_succ]⟩
        have PV : Hid (0 ≤ findT (ndM M) (goH k (goW z k)).prev) := by
          have e := findT_id GR.out.tr (j := 0) (y := stT startX.head) (by rw [EL.out]; rfl)
          show 0 ≤ findT (ndM M) (hdId startX.head)
          rw [← stT_id, e]
          exact Int.le_refl _
        have QI : Hid (hdId (goH k (goW z k)) = (goO (goW z) k).1) := rfl
        have LM : Hid (M.length < 4096) := by
          have h := congrArg List.length EL.out
          rw [ndM_length, goT_len] at h
          have := KM.out
          show _ < _
          omega
        obtain ⟨hd, hhd⟩ : ∃ hd, hd = goH k (goW z k) := ⟨_, rfl⟩
        rw [← hhd] at CH BH AE PV QI
        have LN : Hid ((hdL hd).toArray.size = 68) := by show _ = _; rw [List.size_toArray]; exact hdL_length CH.out
        have OA : Hid ((hdL hd).toArray.all (·.oneCell') = true) := all_oneCell_toArray (hdL_one' _)
        obtain ⟨cn, hcn⟩ : ∃ cn, cn = hdL hd := ⟨_, rfl⟩
        have CN := Lib.hid hcn
        rw [← hcn] at BH LN OA
        obtain ⟨c0, hc0⟩ : ∃ c0, c0 = (hdId startX.head).map bV := ⟨_, rfl⟩
        rw [← hc0] at START BH
        have k32 : IntKind.u32.wrap (k : Int) = (k : Int) := by have := KM.out; rw [IntKind.wrap_u32]; omega
        have a1 : IntKind.i64.wrap (1 + (t5 : Int)) = 1 + (t5 : Int) := IntWalk.i64_in _ (by omega)
        have a2 : IntKind.u32.wrap (1 + (t5 : Int)) = 1 + (t5 : Int) := by rw [IntKind.wrap_u32]; omega
        clear hhd hcn hc0 WE
        go_wp2_with fail
        refine START.out.mono ?_
        rintro e w2 ⟨rfl, bb⟩
        have G2 := Lib.hid (GR.out.below bb)
        clear bb START GR p0 p1
        go_upto_region 21 with ((with_reducible show wpList _ _ _ _ _ _); first | (refine wpList_buildTo rfl 28 _ rfl _ rfl cn.toArray (by rw [← BH.out]; kernel_rfl) ?_; go_frame) | (refine wpList_store_row rfl 28 (.tmp 10) (.tmp 55) rfl w2.heap.size cn.toArray rfl rfl 28 _ (heap_alloc_new _ _) (by rw [LN.out]; kernel_rfl) (by rw [LN.out]; rfl) OA.out ?_; go_frame))
        obtain ⟨_, f2, f3, f4⟩ := fill_setup (Below.refl w2.heap.size w2) (hdL hdZ).toArray cn.toArray 28
        generalize hqw3 : World.setRow _ _ _ = w3
        have ew3 : World.setRow (w2.alloc (.cells (hdL hdZ).toArray 28)) w2.heap.size cn.toArray = w3 := hqw3
        rw [ew3] at f2 f3 f4
        obtain ⟨g10, hg10⟩ : ∃ g10, g10 = w2.heap.size := ⟨_, rfl⟩
        rw [← hg10] at f2 ⊢
        have F10 := Lib.hid f2
        have Ng10 : Hid (w2.heap.size ≤ g10) := by show _ ≤ _; rw [hg10]; exact Nat.le_refl _
        have G3 := Lib.hid (G2.out.below f4)
        clear f2 f3 f4 hqw3 ew3 hg10
        clear G2 Ng10 ht5 lt5 zp k32 a1 a2 BH
        have AD : Hid (Calls Tryz.prog 13 #[(.pointer (some ⟨tb, 0, none⟩)), .agg cn.toArray] w3 (CtaP E w.heap.size tb tm M hd w3)) := by rw [CN.out]; exact ctadd_any E w3 w.heap.size tb tm M hd G3.out.ct G3.out.tr CH.out (HK.out.below G3.out.old) (HE.out.below G3.out.old) G3.out.base
        go_wp2_with ((with_reducible show wpList _ _ _ _ _ _); (refine wpList_load_row rfl 28 (.tmp 10) rfl g10 rfl 28 cn.toArray (0, 0) _ F10.out Tryz.underlying28 rfl (by rw [LN.out]; kernel_rfl) ?_; go_frame))
        refine AD.out.mono ?_
        intro e w4 hA
        obtain ⟨M2, hg4, hf4, _, hfr, hnd⟩ := G3.out.add CH.out PV.out LM.out hA
        obtain ⟨rfl, _⟩ := hA
        have e0 : errV E (addE (ndM M) hd - 100) = .nilIface := by rw [AE.out.1]; rfl
        rw [e0]
        have G4 := Lib.hid hg4
        have FD := Lib.hid hf4
        have F4 := Lib.hid (hfr _ _ _ _ F10.out (by decide) (by decide))
        have E2 : Hid (ndM M2 = goT (goW z) (k + 1)) := by show _ = _; rw [hnd AE.out.1]; exact AE.out.2
        clear hg4 hf4 hfr hnd e0 AD G3 F10 AE PV LM EL
        have RI : Hid (∀ W, Calls Tryz.prog 12 #[.agg cn.toArray] W fun e w' => e = .returned (.agg ((goO (goW z) k).1.map bV).toArray) ∧ Below W.heap.size W w') := fun W => by rw [CN.out, ← QI.out]; exact rheadid_any hd CH.out W
        have HASN : Hid (∀ q ∈ (List.range (k + 1)).map (goO (goW z)), 0 ≤ findT (ndM M2) q.1) := fun q hq => by
          obtain ⟨i, hi', rfl⟩ := List.mem_map.1 hq
          have htr := G4.out.tr
          exact found_bo htr (by rw [E2.out, ← goG_nil]) (List.mem_range.1 hi')
        have LJ : Hid (((goO (goW z) k).1.map bV).length = 32) := by show _ = _; rw [List.length_map]; exact (goO (goW z) k).2
        have OJ : Hid (∀ u ∈ (goO (goW z) k).1.map bV, u.oneCell' = true) := bV_one' _
        have PE : Hid (((List.range (k + 1)).map (goO (goW z))).map (fun q : OH => q.1.map bV) = (((List.range k).map (goO (goW z))).map fun q : OH => q.1.map bV) ++ [(goO (goW z) k).1.map bV]) := by show _ = _; rw [List.range_succ]; simp
        have DL : Hid ((((List.range k).map (goO (goW z))).map fun q : OH => q.1.map bV).length ≤ 1000) := by show _ ≤ _; simp; have := KM.out; omega
        obtain ⟨cq, hcq⟩ : ∃ cq, cq = (goO (goW z) k).1.map bV := ⟨_, rfl⟩
        rw [← hcq] at RI LJ OJ PE
        clear hcq
        go_upto_region 23 with fail
        go_wp2_with ((with_reducible show wpList _ _ _ _ _ _); (refine wpList_load_row rfl 28 (.tmp 10) rfl g10 rfl 28 cn.toArray (0, 0) _ F4.out Tryz.underlying28 rfl (by rw [LN.out]; kernel_rfl) ?_; go_frame))
        refine (RI.out w4).mono ?_
        rintro e w6 ⟨rfl, bb⟩
        have G6 := Lib.hid (G4.out.below bb)
        clear bb G4 F4 RI
        go_wp2_with (first | ((with_reducible show wpList _ _ _ _ _ _); (refine wpList_slice_one rfl 52 26 (.tmp 62) rfl (cq) rfl Tryz.underlying52 i0 _ hi hz0 (by rw [hz1, LJ.out]) (by rw [LJ.out]; omega) (by rw [LJ.out]; omega) ?_; have nf := heap_alloc_new w6 (.cells ((cq)).toArray 26 (0, 0)); have bb := (Below.refl w6.heap.size w6).alloc (Nat.le_refl _) (.cells ((cq)).toArray 26 (0, 0)); obtain ⟨g1, hg1⟩ : ∃ g, g = w6.heap.size := ⟨_, rfl⟩; generalize hq : World.alloc _ _ = w7; have e2 : w6.alloc (.cells ((cq)).toArray 26 (0, 0)) = w7 := hq; rw [e2] at nf bb; rw [← hg1] at nf ⊢; have NF := Lib.hid nf; have GB := Lib.hid (G6.out.below bb); clear nf bb hq e2 hg1; go_frame)) | (at_builtin; go_loud (refine wpList_append_own_at _ rfl _ _ 52 rfl w.heap.size 26 i0 (.agg (List.replicate 32 (bV 0)).toArray) 32 32 Tryz.underlying52 hi hz0 hz1 hz2 (by kernel_rfl) (by decide) ov _ (((List.range k).map (goO (goW z))).map fun q : OH => q.1.map bV).flatten rfl GB.out.ids.1 ⟨g1, 0, none⟩ 1 1 (cq) rfl (by rw [LJ.out]) (fun j u hj => by rw [Addr.add_mid]; exact range_of_box NF.out j u hj) OJ.out (by have := DL.out; unfold maxLen; omega) (by have := DL.out; omega) GB.out.base ?_; intro nv w8 e1 e2 _ e4; have NEW : Hid (RwOwn 32 26 w.heap.size w8 nv ((((List.range k).map (goO (goW z))).map fun q : OH => q.1.map bV) ++ [cq])) := RwOwn.push GB.out.ids.2 LJ.out e1; have G8 := Lib.hid (GB.out.turn e2 (I' := (List.range (k + 1)).map (goO (goW z))) (by rw [PE.out]; exact NEW.out) HASN.out); clear e1 e2 e4; go_frame)))
        clear G6 GB NF NEW PE LJ OJ HASN DL
        go_roundw
        case rel => exact ⟨k + 1, nv, M2, rfl, by go_num, KLT.out, E2.out, G8.out⟩
        case measure => simp [intOf]; omega
    · have hkm : k = m := by omega
      subst hkm
      have q0 : ¬ ((k : Int) < (k : Int)) := by omega
      have EK : Hid (ndM M = goG (goW z) k []) := by show _ = _; rw [goG_nil]; exact EL.out
      clear hlt hk EL KM
      obtain ⟨zl, hzl⟩ : ∃ zl, zl = List.replicate 32 (bV 0) := ⟨_, rfl⟩
      have HZL := Lib.hid hzl
      clear hzl
      have ZS : Hid (zl.toArray.size = 32) := by show _ = _; rw [HZL.out]; rfl
      have ZO : Hid (zl.toArray.all (·.oneCell') = true) := by show _ = _; rw [HZL.out]; exact bV_one (List.replicate 32 0)
      go_upto_region 25 with ((with_reducible show wpList _ _ _ _ _ _); first | (refine wpList_buildTo rfl 26 _ rfl _ rfl zl.toArray (by rw [HZL.out]; kernel_rfl) ?_; go_frame) | (refine wpList_store_row rfl 26 (.tmp 11) (.tmp 65) rfl wr.heap.size zl.toArray rfl rfl 26 _ (heap_alloc_new _ _) (by rw [ZS.out]; kernel_rfl) (by rw [ZS.out]; rfl) ZO.out ?_; go_frame))
      obtain ⟨_, f2, f3, f4⟩ := fill_setup (Below.refl wr.heap.size wr) (List.replicate 32 (bV 0)).toArray zl.toArray 26
      generalize hqw2 : World.setRow _ _ _ = w2
      have ew2 : World.setRow (wr.alloc (.cells (List.replicate 32 (bV 0)).toArray 26)) wr.heap.size zl.toArray = w2 := hqw2
      rw [ew2] at f2 f3 f4
      obtain ⟨g11, hg11⟩ : ∃ g11, g11 = wr.heap.size := ⟨_, rfl⟩
      rw [← hg11] at f2 ⊢
      have F11 := Lib.hid f2
      have Ng11 : Hid (wr.heap.size ≤ g11) := by show _ ≤ _; rw [hg11]; exact Nat.le_refl _
      have G2 := Lib.hid (GR.out.below f4)
      clear f2 f3 f4 hqw2 ew2 hg11
      have G11 : Hid (w.heap.size ≤ g11) := Nat.le_trans GR.out.base Ng11.out
      have NOV : Hid (ov.ownBlock ≠ some g11) := fun e => by have := (GR.out.ids.1.lt _ e).2; have := Ng11.out; omega
      clear GR Ng11 ZS ZO q0
      go_wp2_with fail
      go_loopw [12] (fun vi wr => GoI2 z w tb tm b bm mm k g11 ov vi wr) (fun vi _ => k - (intOf vi).toNat)
      case atStart => exact ⟨0, _, M, _, _, _, [], ⟨List.replicate 32 0, rfl⟩, rfl, Nat.zero_le _, rfl, List.nodup_nil, (fun p hp => by cases hp), EK.out, MkS.nil, G2.out, (by have h := F11.out; rw [HZL.out] at h; exact h), fun h => absurd h (by omega)⟩
      case round =>
        clear G2 F11 EK M
        rename World => wz
        obtain ⟨j, lv, M, B, Mt, d, P, last, rfl, hj, hpj, hpn, hpl, hL, hmb, hg, hf, hlast⟩ := hrel
        have EL := Lib.hid hL
        have GR := Lib.hid hg
        have PJ := Lib.hid hpj
        have PN := Lib.hid hpn
        have PL := Lib.hid hpl
        have MKB := Lib.hid hmb
        have JM := Lib.hid hj
        have LAST := Lib.hid hlast
        have LCL : Hid ((last.1.map bV).toArray.size = 32) := by show _ = _; rw [List.size_toArray, List.length_map]; exact last.2
        have LE0 : Hid (last.1.map bV = last.1.map bV) := rfl
        obtain ⟨cl, hcl⟩ : ∃ cl, cl = last.1.map bV := ⟨_, rfl⟩
        have ECL := Lib.hid hcl
        rw [← hcl] at hf LCL
        have F11 := Lib.hid hf
        have BE : Hid (Calls Tryz.prog 18 #[(.pointer (some ⟨b, 0, none⟩))] wz (BsP w.heap.size b tb bm mm B (ndM M) wz)) := bkbest_any wz w.heap.size b tb bm mm _ tm lv B Mt d M GR.out.mks GR.out.mi GR.out.ct GR.out.tr GR.out.hung GR.out.ne GR.out.base
        clear hL hg hpj hpn hpl hmb hlast hcl hf LE0
        by_cases hlt : j < k
        · have q0 : (j : Int) < (k : Int) := by omega
          have JLT : Hid (j + 1 ≤ k) := hlt
          clear hj
          go_wp2_with fail
          clear q0
          refine BE.out.mono ?_
          intro e w2 hB
          obtain ⟨top, lv2, Mt2, d2, rfl, hbp, hg2, hr2⟩ := GR.out.best hB
          obtain ⟨a, ha, hna, rfl, htop⟩ : ∃ a, a < k ∧ a ∉ P ∧ top = goO (goW z) a ∧ TopS (goW z) k P a := by
            have trb := GR.out.tr
            have hub := GR.out.hung
            rw [EL.out] at hbp trb hub
            rcases go_best WK.out HM.out trb hub MKB.out PL.out hbp with ⟨hall, _⟩ | h
            · obtain ⟨i, hi', hni⟩ := go_more PN.out PL.out (by rw [PJ.out]; exact JLT.out)
              exact absurd (hall i hi') hni
            · exact h
          have AM := Lib.hid ha
          have AN := Lib.hid hna
          have TOP := Lib.hid htop
          have FR := Lib.hid hbp.free
          have G2 := Lib.hid hg2
          have F112 := Lib.hid (row_kps F11.out hr2 (GR.out.mks.rowF F11.out (by decide) (by decide)))
          have SCT : Hid (((goO (goW z) a).1.map bV).toArray.size = 32) := by show _ = _; rw [List.size_toArray, List.length_map]; exact (goO (goW z) a).2
          have OCT : Hid (((goO (goW z) a).1.map bV).toArray.all (·.oneCell') = true) := bV_one _
          obtain ⟨ct, hct⟩ : ∃ ct, ct = (goO (goW z) a).1.map bV := ⟨_, rfl⟩
          have ET := Lib.hid hct
          rw [← hct] at SCT OCT ⊢
          clear hB hbp hg2 hr2 ha hna htop hct BE GR F11
          go_upto_region 29 with ((with_reducible show wpList _ _ _ _ _ _); (refine wpList_store_row rfl 26 (.tmp 13) (.tmp 73) rfl w2.heap.size ct.toArray rfl rfl 26 _ (heap_alloc_new _ _) (by rw [SCT.out]; kernel_rfl) (by rw [SCT.out]; rfl) OCT.out ?_; go_frame))
          obtain ⟨_, f2, f3, f4⟩ := fill_setup (Below.refl w2.heap.size w2) (List.replicate 32 (bV 0)).toArray ct.toArray 26
          generalize hqw3 : World.setRow _ _ _ = w3
          have ew3 : World.setRow (w2.alloc (.cells (List.replicate 32 (bV 0)).toArray 26)) w2.heap.size ct.toArray = w3 := hqw3
          rw [ew3] at f2 f3 f4
          obtain ⟨g13, hg13⟩ : ∃ g13, g13 = w2.heap.size := ⟨_, rfl⟩
          rw [← hg13] at f2 ⊢
          have F13 := Lib.hid f2
          have Ng13 : Hid (w2.heap.size ≤ g13) := by show _ ≤ _; rw [hg13]; exact Nat.le_refl _
          have G3 := Lib.hid (G2.out.below f4)
          have F113 := Lib.hid (row_below F112.out f4)
          clear f2 f3 f4 hqw3 ew3 hg13
          clear G2 F112 Ng13
          have HHC : Hid (Calls Tryz.prog 28 #[ov, .agg ct.toArray] w3 fun e w' => e = .returned (.bool true) ∧ Below w3.heap.size w3 w') := by
            have hat : HsAt w3 ov (((List.range k).map (goO (goW z))).map fun q : OH => q.1) := by
              have h := G3.out.ids
              exact (rw_hs_own (by unfold HR; rw [List.map_map]; exact h) (fun x hx => by obtain ⟨q, _, rfl⟩ := List.mem_map.1 hx; exact q.2)).at
            have h := rhashash_any _ (goO (goW z) a).1 ov w3 hat (goO (goW z) a).2 (by simp; have := HM.out; omega)
            have e : ((((List.range k).map (goO (goW z))).map fun q : OH => q.1).any fun y => decide (y = (goO (goW z) a).1)) = true := by
              rw [List.any_eq_true]
              exact ⟨_, List.mem_map.2 ⟨_, List.mem_map.2 ⟨a, List.mem_range.2 AM.out, rfl⟩, rfl⟩, decide_eq_true rfl⟩
            rw [e, ← ET.out] at h
            exact h
          have ISC : Hid (∀ W, Below w3.heap.size w3 W → Calls Tryz.prog 20 #[(.pointer (some ⟨b, 0, none⟩)), .agg ct.toArray] W fun e w' => e = .returned (.bool false) ∧ Below W.heap.size W w') := fun W hW => by
            have h := bkis_any W w.heap.size b tb bm mm _ tm lv2 B Mt2 d2 M (goO (goW z) a).1 (G3.out.mks.below hW) (G3.out.ct.below hW) G3.out.tr (goO (goW z) a).2
            rw [FR.out, ← ET.out] at h
            exact h
          have HT1 : Hid ((ofT (ndM M) (goO (goW z) a).1).2.1 ≠ 0) := by
            have trb := G3.out.tr
            rw [EL.out] at trb ⊢
            have e := ofT_at trb (goG_br (w := goW z) (P := P) AM.out)
            rw [goO_id, ← goN_id, e]
            show (1 : Int) ≠ 0
            decide
          go_wp2_with ((with_reducible show wpList _ _ _ _ _ _); (refine wpList_load_row rfl 26 (.tmp 13) rfl g13 rfl 26 ct.toArray (0, 0) _ F13.out Tryz.underlying26 rfl (by rw [SCT.out]; kernel_rfl) ?_; go_frame))
          refine HHC.out.mono ?_
          rintro e w4 ⟨rfl, bb⟩
          have G4 := Lib.hid (G3.out.below bb)
          have F134 := Lib.hid (row_below F13.out bb)
          have F114 := Lib.hid (row_below F113.out bb)
          have C4 := Lib.hid bb
          clear bb HHC G3 F13 F113
          go_wp2_with ((with_reducible show wpList _ _ _ _ _ _); (refine wpList_load_rowG 26 (.tmp 13) rfl g13 rfl 26 ct.toArray (0, 0) _ F134.out Tryz.underlying26 rfl (by rw [SCT.out]; kernel_rfl) rfl ?_; go_frame))
          refine (ISC.out w4 C4.out).mono ?_
          rintro e w5 ⟨rfl, bb⟩
          have G5 := Lib.hid (G4.out.below bb)
          have F135 := Lib.hid (row_below F134.out bb)
          have F115 := Lib.hid (row_below F114.out bb)
          clear bb ISC G4 F134 F114 C4
          by_cases hj0 : 0 < j
          · have r0 : (0 : Int) < (j : Int) := by omega
            obtain ⟨c, hcm, hcp, hce, hct2⟩ := LAST.out hj0
            have OV : Hid (Calls Tryz.prog 22 #[(.pointer (some ⟨b, 0, none⟩)), .agg cl.toArray, .agg ct.toArray] w5 fun e w' => e = .returned (.bool true) ∧ Below w5.heap.size w5 w') := by
              have h := bkovr_any w5 w.heap.size b tb bm mm _ tm lv2 B Mt2 d2 M last (goO (goW z) a) G5.out.mks G5.out.ct G5.out.tr
              have trb := G5.out.tr
              rw [EL.out] at trb
              rw [hce, go_over trb EL.out hcm AM.out, hct2 a AM.out AN.out (fun e => AN.out (e ▸ hcp)), ← hce, ← ECL.out, ← ET.out] at h
              exact h
            clear hcm hcp hce hct2 LAST
            go_wp2_with ((with_reducible show wpList _ _ _ _ _ _); first | (refine wpList_load_rowG 26 (.tmp 11) rfl g11 rfl 26 cl.toArray (0, 0) _ F115.out Tryz.underlying26 rfl (by rw [LCL.out]; kernel_rfl) rfl ?_; go_frame) | (refine wpList_load_rowG 26 (.tmp 13) rfl g13 rfl 26 ct.toArray (0, 0) _ F135.out Tryz.underlying26 rfl (by rw [SCT.out]; kernel_rfl) rfl ?_; go_frame))
            clear r0 hj0
            refine OV.out.mono ?_
            rintro e wq ⟨rfl, bb⟩
            have GQ := Lib.hid (G5.out.below bb)
            have F13q := Lib.hid (row_below F135.out bb)
            have F11q := Lib.hid (row_below F115.out bb)
            clear bb OV G5 F135 F115 ECL
            have BD : Hid (∀ W, Below wq.heap.size wq W → Calls Tryz.prog 15 #[(.pointer (some ⟨b, 0, none⟩)), .agg ct.toArray] W (BaP w.heap.size b tb bm mm lv2 B Mt2 d2 (ndM M) (goO (goW z) a).1 W)) := fun W hW => by rw [ET.out]; exact bkbad_any W w.heap.size b tb bm mm _ tm lv2 B Mt2 d2 M _ (GQ.out.mks.below hW) (GQ.out.ct.below hW) GQ.out.tr (goO (goW z) a).2
            go_wp2_with ((with_reducible show wpList _ _ _ _ _ _); (refine wpList_load_rowG 26 (.tmp 13) rfl g13 rfl 26 ct.toArray (0, 0) _ F13q.out Tryz.underlying26 rfl (by rw [SCT.out]; kernel_rfl) rfl ?_; go_frame))
            refine (BD.out wq (Below.refl _ _)).mono ?_
            intro e wb hB
            obtain ⟨B2, hgb, hrb, hcb⟩ := GQ.out.bad hB
            have hcase : e = .returned (.bool true) ∧ MkS (goW z) B2 (P ++ [a]) := by
              rcases hcb with ⟨h0, _⟩ | ⟨_, h1, h2⟩
              · exact absurd h0 HT1.out
              · refine ⟨h1, ?_⟩
                rcases h2 with ⟨h3, _⟩ | ⟨_, l, hl, hb⟩
                · rw [FR.out] at h3; cases h3
                · have trq := GQ.out.tr
                  rw [EL.out] at hl trq
                  exact MkS.bad trq PL.out MKB.out AM.out AN.out hl hb
            obtain ⟨rfl, hmk⟩ := hcase
            have MKQ := Lib.hid hmk
            have GB := Lib.hid hgb
            have F13b := Lib.hid (row_kps F13q.out hrb (GQ.out.mks.rowF F13q.out (by decide) (by decide)))
            have F11b := Lib.hid (row_kps F11q.out hrb (GQ.out.mks.rowF F11q.out (by decide) (by decide)))
            clear hB hgb hrb hcb hmk BD GQ F13q F11q
            have PL2 : Hid (∀ p ∈ P ++ [a], p < k) := fun p hp => (List.mem_append.1 hp).elim (PL.out p) (fun h => by rw [List.mem_singleton.1 h]; exact AM.out)
            have ISM : Hid (Calls Tryz.prog 20 #[(.pointer (some ⟨b, 0, none⟩)), .agg ct.toArray] wb fun e w' => e = .returned (.bool true) ∧ Below wb.heap.size wb w') := by
              have h := bkis_any wb w.heap.size b tb bm mm _ tm lv2 B2 Mt2 d2 M (goO (goW z) a).1 GB.out.mks GB.out.ct GB.out.tr (goO (goW z) a).2
              have e : isM (ndM M) B2 (goO (goW z) a).1 = true := by
                have trb := GB.out.tr
                have hub := GB.out.hung
                rw [EL.out] at trb hub ⊢
                exact (mk_br WK.out HM.out trb hub MKQ.out PL2.out AM.out).2 (by simp)
              rw [e, ← ET.out] at h
              exact h
            go_wp2_with ((with_reducible show wpList _ _ _ _ _ _); (refine wpList_load_rowG 26 (.tmp 13) rfl g13 rfl 26 ct.toArray (0, 0) _ F13b.out Tryz.underlying26 rfl (by rw [SCT.out]; kernel_rfl) rfl ?_; go_frame))
            refine ISM.out.mono ?_
            rintro e wc ⟨rfl, bb⟩
            have GC := Lib.hid (GB.out.below bb)
            have F13c := Lib.hid (row_below F13b.out bb)
            have F11c := Lib.hid (row_below F11b.out bb)
            clear bb ISM GB F13b F11b
            have CH : Hid (HdOk (goJ a (goW z a))) := ⟨(show (99 : Nat) ≤ 4294967295 by decide), hdId_length _, rfl, (show (0 : Nat) ≤ 4294967295 by decide), (show (1000 : Nat) ≤ 4294967295 by decide), (show (0 : Nat) ≤ 4294967295 by decide)⟩
            have BH : Hid (Tryz.prog.built 28 [(0, .int .u32 99), (1, .agg ct.toArray), (4, .int .u32 1000)] = some (hdL (goJ a (goW z a))).toArray) := by
              have h := built_hd3 99 1000 (goC a (goW z a)) (hdId_length _)
              show _ = _
              rw [ET.out]
              exact h
            have AE : Hid (addE (ndM M) (goJ a (goW z a)) = 0 ∧ ndM M ++ [nxT (ndM M) (goJ a (goW z a))] = goG (goW z) k (P ++ [a])) := by
              have trc := GC.out.tr
              rw [EL.out] at trc ⊢
              have h := go_child WK.out HM.out PN.out PL.out trc AM.out AN.out
              refine ⟨h.1, ?_⟩
              rw [h.2]
              unfold goG
              rw [List.map_append, List.append_assoc]
              rfl
            have PV : Hid (0 ≤ findT (ndM M) (goJ a (goW z a)).prev) := found_bo GC.out.tr EL.out AM.out
            have LMM : Hid (M.length < 4096) := by
              have h := congrArg List.length EL.out
              rw [ndM_length, goG_len] at h
              have h1 := PJ.out
              have h2 := JM.out
              have := HM.out
              show _ < _
              omega
            obtain ⟨hd, hhd⟩ : ∃ hd, hd = goJ a (goW z a) := ⟨_, rfl⟩
            have HDE := Lib.hid hhd
            rw [← hhd] at CH BH AE PV
            have LN : Hid ((hdL hd).toArray.size = 68) := by show _ = _; rw [List.size_toArray]; exact hdL_length CH.out
            have OA : Hid ((hdL hd).toArray.all (·.oneCell') = true) := all_oneCell_toArray (hdL_one' _)
            obtain ⟨cn, hcn⟩ : ∃ cn, cn = hdL hd := ⟨_, rfl⟩
            have CN := Lib.hid hcn
            rw [← hcn] at BH LN OA
            clear hhd hcn
            go_upto_region 32 with ((with_reducible show wpList _ _ _ _ _ _); first | (refine wpList_load_row rfl 26 (.tmp 13) rfl g13 rfl 26 ct.toArray (0, 0) _ F13c.out Tryz.underlying26 rfl (by rw [SCT.out]; kernel_rfl) ?_; go_frame) | (refine wpList_buildTo rfl 28 _ rfl _ rfl cn.toArray (by rw [← BH.out]; kernel_rfl) ?_; go_frame) | (refine wpList_store_row rfl 28 (.tmp 14) (.tmp 107) rfl wc.heap.size cn.toArray rfl rfl 28 _ (heap_alloc_new _ _) (by rw [LN.out]; kernel_rfl) (by rw [LN.out]; rfl) OA.out ?_; go_frame))
            obtain ⟨_, f2, f3, f4⟩ := fill_setup (Below.refl wc.heap.size wc) (hdL hdZ).toArray cn.toArray 28
            generalize hqwd : World.setRow _ _ _ = wd
            have ewd : World.setRow (wc.alloc (.cells (hdL hdZ).toArray 28)) wc.heap.size cn.toArray = wd := hqwd
            rw [ewd] at f2 f3 f4
            obtain ⟨g14, hg14⟩ : ∃ g14, g14 = wc.heap.size := ⟨_, rfl⟩
            rw [← hg14] at f2 ⊢
            have F14 := Lib.hid f2
            have Ng14 : Hid (wc.heap.size ≤ g14) := by show _ ≤ _; rw [hg14]; exact Nat.le_refl _
            have GD := Lib.hid (GC.out.below f4)
            have F13d := Lib.hid (row_below F13c.out f4)
            have F11d := Lib.hid (row_below F11c.out f4)
            clear f2 f3 f4 hqwd ewd hg14
            clear GC F13c F11c Ng14 BH OA
            have AD : Hid (Calls Tryz.prog 13 #[(.pointer (some ⟨tb, 0, none⟩)), .agg cn.toArray] wd (CtaP E w.heap.size tb tm M hd wd)) := by rw [CN.out]; exact ctadd_any E wd w.heap.size tb tm M hd GD.out.ct GD.out.tr CH.out (HK.out.below GD.out.old) (HE.out.below GD.out.old) GD.out.base
            go_wp2_with ((with_reducible show wpList _ _ _ _ _ _); (refine wpList_load_row rfl 28 (.tmp 14) rfl g14 rfl 28 cn.toArray (0, 0) _ F14.out Tryz.underlying28 rfl (by rw [LN.out]; kernel_rfl) ?_; go_frame))
            refine AD.out.mono ?_
            intro e we hA
            obtain ⟨M2, hg4, _, _, hfr, hnd⟩ := GD.out.add CH.out PV.out LMM.out hA
            obtain ⟨rfl, _⟩ := hA
            have e0 : errV E (addE (ndM M) hd - 100) = .nilIface := by rw [AE.out.1]; rfl
            rw [e0]
            have GE := Lib.hid hg4
            have F14e := Lib.hid (hfr _ _ _ _ F14.out (by decide) (by decide))
            have F13e := Lib.hid (hfr _ _ _ _ F13d.out (by decide) (by decide))
            have F11e := Lib.hid (hfr _ _ _ _ F11d.out (by decide) (by decide))
            have E2 : Hid (ndM M2 = goG (goW z) k (P ++ [a])) := by show _ = _; rw [hnd AE.out.1]; exact AE.out.2
            clear hg4 hfr hnd e0 AD GD F14 F13d F11d AE PV LMM EL
            have RI : Hid (∀ W, Calls Tryz.prog 12 #[.agg cn.toArray] W fun e w' => e = .returned (.agg ((goK a (goW z a)).map bV).toArray) ∧ Below W.heap.size W w') := fun W => by
              have h := rheadid_any hd CH.out W
              rw [← CN.out] at h
              rw [HDE.out] at h
              exact h
            have ISK : Hid (∀ W, Below we.heap.size we W → Calls Tryz.prog 20 #[(.pointer (some ⟨b, 0, none⟩)), .agg ((goK a (goW z a)).map bV).toArray] W fun e w' => e = .returned (.bool true) ∧ Below W.heap.size W w') := fun W hW => by
              have h := bkis_any W w.heap.size b tb bm mm _ tm lv2 B2 Mt2 d2 M2 (goK a (goW z a)) (GE.out.mks.below hW) (GE.out.ct.below hW) GE.out.tr (hdId_length _)
              have e : isM (ndM M2) B2 (goK a (goW z a)) = true := by
                have trb := GE.out.tr
                have hub := GE.out.hung
                rw [E2.out] at trb hub ⊢
                exact mk_kid trb hub MKQ.out PL2.out (by simp) (by simp)
              rw [e] at h
              exact h
            obtain ⟨ck, hck⟩ : ∃ ck, ck = (goK a (goW z a)).map bV := ⟨_, rfl⟩
            rw [← hck] at RI ISK
            clear hck
            go_wp2_with ((with_reducible show wpList _ _ _ _ _ _); (refine wpList_load_rowG 28 (.tmp 14) rfl g14 rfl 28 cn.toArray (0, 0) _ F14e.out Tryz.underlying28 rfl (by rw [LN.out]; kernel_rfl) rfl ?_; go_frame))
            refine (RI.out we).mono ?_
            rintro e wf ⟨rfl, bb⟩
            have GF := Lib.hid (GE.out.below bb)
            have F13f := Lib.hid (row_below F13e.out bb)
            have F11f := Lib.hid (row_below F11e.out bb)
            have CF := Lib.hid bb
            clear bb RI GE F13e F11e F14e
            go_wp2_with fail
            refine (ISK.out wf CF.out).mono ?_
            rintro e wg ⟨rfl, bb⟩
            have GG := Lib.hid (GF.out.below bb)
            have F13g := Lib.hid (row_below F13f.out bb)
            have F11g := Lib.hid (row_below F11f.out bb)
            clear bb ISK GF F13f F11f CF
            have SCL : Hid (cl.toArray.size = ct.toArray.size) := by show _ = _; rw [LCL.out, SCT.out]
            go_wp2_with ((with_reducible show wpList _ _ _ _ _ _); first | (refine wpList_load_row rfl 26 (.tmp 13) rfl g13 rfl 26 ct.toArray (0, 0) _ F13g.out Tryz.underlying26 rfl (by rw [SCT.out]; kernel_rfl) ?_; go_frame) | (refine wpList_store_row rfl 26 (.tmp 11) (.tmp 119) rfl g11 ct.toArray rfl rfl 26 _ F11g.out (by rw [SCT.out]; kernel_rfl) (by rw [SCL.out]) OCT.out ?_; go_frame))
            have hgr : wg.grownBy (wg.setRow g11 ct.toArray) (some g11) := setRow_grown _
            have hrow := setRow_heap _ _ _ ct.toArray _ _ F11g.out
            generalize hwh : wg.setRow g11 ct.toArray = wh at hgr hrow ⊢
            have GH := Lib.hid (GG.out.boxed F11g.out (by decide) (by decide) (by decide) (by decide) (by decide) G11.out hgr NOV.out)
            have F11h := Lib.hid hrow
            have jm := JM.out
            have hm15 := HM.out
            clear hgr hrow hwh GG F13g F11g
            go_roundw
            case rel =>
              refine ⟨j + 1, lv2, M2, B2, Mt2, d2, P ++ [a], goO (goW z) a, by go_num, JLT.out, by rw [List.length_append, PJ.out]; rfl, ?_, PL2.out, E2.out, MKQ.out, GH.out, (by rw [← ET.out]; exact F11h.out), fun _ => ⟨a, AM.out, by simp, rfl, fun i hi hni hne => TOP.out i hi (fun h => hni (List.mem_append_left _ h)) hne⟩⟩
              rw [List.nodup_append]
              exact ⟨PN.out, by simp, fun x hx y hy => by rw [List.mem_singleton.1 hy]; exact fun e => AN.out (e ▸ hx)⟩
            case measure => simp [intOf]; omega
          · have r0 : ¬ ((0 : Int) < (j : Int)) := by omega
            obtain ⟨wq, hwq⟩ : ∃ wq, wq = w5 := ⟨_, rfl⟩
            rw [← hwq] at G5 F135 F115 ⊢
            have GQ := G5
            have F13q := F135
            have F11q := F115
            clear hwq G5 F135 F115 LAST ECL
            have BD : Hid (∀ W, Below wq.heap.size wq W → Calls Tryz.prog 15 #[(.pointer (some ⟨b, 0, none⟩)), .agg ct.toArray] W (BaP w.heap.size b tb bm mm lv2 B Mt2 d2 (ndM M) (goO (goW z) a).1 W)) := fun W hW => by rw [ET.out]; exact bkbad_any W w.heap.size b tb bm mm _ tm lv2 B Mt2 d2 M _ (GQ.out.mks.below hW) (GQ.out.ct.below hW) GQ.out.tr (goO (goW z) a).2
            go_wp2_with ((with_reducible show wpList _ _ _ _ _ _); (refine wpList_load_rowG 26 (.tmp 13) rfl g13 rfl 26 ct.toArray (0, 0) _ F13q.out Tryz.underlying26 rfl (by rw [SCT.out]; kernel_rfl) rfl ?_; go_frame))
            clear r0 hj0
            refine (BD.out wq (Below.refl _ _)).mono ?_
            intro e wb hB
            obtain ⟨B2, hgb, hrb, hcb⟩ := GQ.out.bad hB
            have hcase : e = .returned (.bool true) ∧ MkS (goW z) B2 (P ++ [a]) := by
              rcases hcb with ⟨h0, _⟩ | ⟨_, h1, h2⟩
              · exact absurd h0 HT1.out
              · refine ⟨h1, ?_⟩
                rcases h2 with ⟨h3, _⟩ | ⟨_, l, hl, hb⟩
                · rw [FR.out] at h3; cases h3
                · have trq := GQ.out.tr
                  rw [EL.out] at hl trq
                  exact MkS.bad trq PL.out MKB.out AM.out AN.out hl hb
            obtain ⟨rfl, hmk⟩ := hcase
            have MKQ := Lib.hid hmk
            have GB := Lib.hid hgb
            have F13b := Lib.hid (row_kps F13q.out hrb (GQ.out.mks.rowF F13q.out (by decide) (by decide)))
            have F11b := Lib.hid (row_kps F11q.out hrb (GQ.out.mks.rowF F11q.out (by decide) (by decide)))
            clear hB hgb hrb hcb hmk BD GQ F13q F11q
            have PL2 : Hid (∀ p ∈ P ++ [a], p < k) := fun p hp => (List.mem_append.1 hp).elim (PL.out p) (fun h => by rw [List.mem_singleton.1 h]; exact AM.out)
            have ISM : Hid (Calls Tryz.prog 20 #[(.pointer (some ⟨b, 0, none⟩)), .agg ct.toArray] wb fun e w' => e = .returned (.bool true) ∧ Below wb.heap.size wb w') := by
              have h := bkis_any wb w.heap.size b tb bm mm _ tm lv2 B2 Mt2 d2 M (goO (goW z) a).1 GB.out.mks GB.out.ct GB.out.tr (goO (goW z) a).2
              have e : isM (ndM M) B2 (goO (goW z) a).1 = true := by
                have trb := GB.out.tr
                have hub := GB.out.hung
                rw [EL.out] at trb hub ⊢
                exact (mk_br WK.out HM.out trb hub MKQ.out PL2.out AM.out).2 (by simp)
              rw [e, ← ET.out] at h
              exact h
            go_wp2_with ((with_reducible show wpList _ _ _ _ _ _); (refine wpList_load_rowG 26 (.tmp 13) rfl g13 rfl 26 ct.toArray (0, 0) _ F13b.out Tryz.underlying26 rfl (by rw [SCT.out]; kernel_rfl) rfl ?_; go_frame))
            refine ISM.out.mono ?_
            rintro e wc ⟨rfl, bb⟩
            have GC := Lib.hid (GB.out.below bb)
            have F13c := Lib.hid (row_below F13b.out bb)
            have F11c := Lib.hid (row_below F11b.out bb)
            clear bb ISM GB F13b F11b
            have CH : Hid (HdOk (goJ a (goW z a))) := ⟨(show (99 : Nat) ≤ 4294967295 by decide), hdId_length _, rfl, (show (0 : Nat) ≤ 4294967295 by decide), (show (1000 : Nat) ≤ 4294967295 by decide), (show (0 : Nat) ≤ 4294967295 by decide)⟩
            have BH : Hid (Tryz.prog.built 28 [(0, .int .u32 99), (1, .agg ct.toArray), (4, .int .u32 1000)] = some (hdL (goJ a (goW z a))).toArray) := by
              have h := built_hd3 99 1000 (goC a (goW z a)) (hdId_length _)
              show _ = _
              rw [ET.out]
              exact h
            have AE : Hid (addE (ndM M) (goJ a (goW z a)) = 0 ∧ ndM M ++ [nxT (ndM M) (goJ a (goW z a))] = goG (goW z) k (P ++ [a])) := by
              have trc := GC.out.tr
              rw [EL.out] at trc ⊢
              have h := go_child WK.out HM.out PN.out PL.out trc AM.out AN.out
              refine ⟨h.1, ?_⟩
              rw [h.2]
              unfold goG
              rw [List.map_append, List.append_assoc]
              rfl
            have PV : Hid (0 ≤ findT (ndM M) (goJ a (goW z a)).prev) := found_bo GC.out.tr EL.out AM.out
            have LMM : Hid (M.length < 4096) := by
              have h := congrArg List.length EL.out
              rw [ndM_length, goG_len] at h
              have h1 := PJ.out
              have h2 := JM.out
              have := HM.out
              show _ < _
              omega
            obtain ⟨hd, hhd⟩ : ∃ hd, hd = goJ a (goW z a) := ⟨_, rfl⟩
            have HDE := Lib.hid hhd
            rw [← hhd] at CH BH AE PV
            have LN : Hid ((hdL hd).toArray.size = 68) := by show _ = _; rw [List.size_toArray]; exact hdL_length CH.out
            have OA : Hid ((hdL hd).toArray.all (·.oneCell') = true) := all_oneCell_toArray (hdL_one' _)
            obtain ⟨cn, hcn⟩ : ∃ cn, cn = hdL hd := ⟨_, rfl⟩
            have CN := Lib.hid hcn
            rw [← hcn] at BH LN OA
            clear hhd hcn
            go_upto_region 32 with ((with_reducible show wpList _ _ _ _ _ _); first | (refine wpList_load_row rfl 26 (.tmp 13) rfl g13 rfl 26 ct.toArray (0, 0) _ F13c.out Tryz.underlying26 rfl (by rw [SCT.out]; kernel_rfl) ?_; go_frame) | (refine wpList_buildTo rfl 28 _ rfl _ rfl cn.toArray (by rw [← BH.out]; kernel_rfl) ?_; go_frame) | (refine wpList_store_row rfl 28 (.tmp 14) (.tmp 107) rfl wc.heap.size cn.toArray rfl rfl 28 _ (heap_alloc_new _ _) (by rw [LN.out]; kernel_rfl) (by rw [LN.out]; rfl) OA.out ?_; go_frame))
            obtain ⟨_, f2, f3, f4⟩ := fill_setup (Below.refl wc.heap.size wc) (hdL hdZ).toArray cn.toArray 28
            generalize hqwd : World.setRow _ _ _ = wd
            have ewd : World.setRow (wc.alloc (.cells (hdL hdZ).toArray 28)) wc.heap.size cn.toArray = wd := hqwd
            rw [ewd] at f2 f3 f4
            obtain ⟨g14, hg14⟩ : ∃ g14, g14 = wc.heap.size := ⟨_, rfl⟩
            rw [← hg14] at f2 ⊢
            have F14 := Lib.hid f2
            have Ng14 : Hid (wc.heap.size ≤ g14) := by show _ ≤ _; rw [hg14]; exact Nat.le_refl _
            have GD := Lib.hid (GC.out.below f4)
            have F13d := Lib.hid (row_below F13c.out f4)
            have F11d := Lib.hid (row_below F11c.out f4)
            clear f2 f3 f4 hqwd ewd hg14
            clear GC F13c F11c Ng14 BH OA
            have AD : Hid (Calls Tryz.prog 13 #[(.pointer (some ⟨tb, 0, none⟩)), .agg cn.toArray] wd (CtaP E w.heap.size tb tm M hd wd)) := by rw [CN.out]; exact ctadd_any E wd w.heap.size tb tm M hd GD.out.ct GD.out.tr CH.out (HK.out.below GD.out.old) (HE.out.below GD.out.old) GD.out.base
            go_wp2_with ((with_reducible show wpList _ _ _ _ _ _); (refine wpList_load_row rfl 28 (.tmp 14) rfl g14 rfl 28 cn.toArray (0, 0) _ F14.out Tryz.underlying28 rfl (by rw [LN.out]; kernel_rfl) ?_; go_frame))
            refine AD.out.mono ?_
            intro e we hA
            obtain ⟨M2, hg4, _, _, hfr, hnd⟩ := GD.out.add CH.out PV.out LMM.out hA
            obtain ⟨rfl, _⟩ := hA
            have e0 : errV E (addE (ndM M) hd - 100) = .nilIface := by rw [AE.out.1]; rfl
            rw [e0]
            have GE := Lib.hid hg4
            have F14e := Lib.hid (hfr _ _ _ _ F14.out (by decide) (by decide))
            have F13e := Lib.hid (hfr _ _ _ _ F13d.out (by decide) (by decide))
            have F11e := Lib.hid (hfr _ _ _ _ F11d.out (by decide) (by decide))
            have E2 : Hid (ndM M2 = goG (goW z) k (P ++ [a])) := by show _ = _; rw [hnd AE.out.1]; exact AE.out.2
            clear hg4 hfr hnd e0 AD GD F14 F13d F11d AE PV LMM EL
            have RI : Hid (∀ W, Calls Tryz.prog 12 #[.agg cn.toArray] W fun e w' => e = .returned (.agg ((goK a (goW z a)).map bV).toArray) ∧ Below W.heap.size W w') := fun W => by
              have h := rheadid_any hd CH.out W
              rw [← CN.out] at h
              rw [HDE.out] at h
              exact h
            have ISK : Hid (∀ W, Below we.heap.size we W → Calls Tryz.prog 20 #[(.pointer (some ⟨b, 0, none⟩)), .agg ((goK a (goW z a)).map bV).toArray] W fun e w' => e = .returned (.bool true) ∧ Below W.heap.size W w') := fun W hW => by
              have h := bkis_any W w.heap.size b tb bm mm _ tm lv2 B2 Mt2 d2 M2 (goK a (goW z a)) (GE.out.mks.below hW) (GE.out.ct.below hW) GE.out.tr (hdId_length _)
              have e : isM (ndM M2) B2 (goK a (goW z a)) = true := by
                have trb := GE.out.tr
                have hub := GE.out.hung
                rw [E2.out] at trb hub ⊢
                exact mk_kid trb hub MKQ.out PL2.out (by simp) (by simp)
              rw [e] at h
              exact h
            obtain ⟨ck, hck⟩ : ∃ ck, ck = (goK a (goW z a)).map bV := ⟨_, rfl⟩
            rw [← hck] at RI ISK
            clear hck
            go_wp2_with ((with_reducible show wpList _ _ _ _ _ _); (refine wpList_load_rowG 28 (.tmp 14) rfl g14 rfl 28 cn.toArray (0, 0) _ F14e.out Tryz.underlying28 rfl (by rw [LN.out]; kernel_rfl) rfl ?_; go_frame))
            refine (RI.out we).mono ?_
            rintro e wf ⟨rfl, bb⟩
            have GF := Lib.hid (GE.out.below bb)
            have F13f := Lib.hid (row_below F13e.out bb)
            have F11f := Lib.hid (row_below F11e.out bb)
            have CF := Lib.hid bb
            clear bb RI GE F13e F11e F14e
            go_wp2_with fail
            refine (ISK.out wf CF.out).mono ?_
            rintro e wg ⟨rfl, bb⟩
            have GG := Lib.hid (GF.out.below bb)
            have F13g := Lib.hid (row_below F13f.out bb)
            have F11g := Lib.hid (row_below F11f.out bb)
            clear bb ISK GF F13f F11f CF
            have SCL : Hid (cl.toArray.size = ct.toArray.size) := by show _ = _; rw [LCL.out, SCT.out]
            go_wp2_with ((with_reducible show wpList _ _ _ _ _ _); first | (refine wpList_load_row rfl 26 (.tmp 13) rfl g13 rfl 26 ct.toArray (0, 0) _ F13g.out Tryz.underlying26 rfl (by rw [SCT.out]; kernel_rfl) ?_; go_frame) | (refine wpList_store_row rfl 26 (.tmp 11) (.tmp 119) rfl g11 ct.toArray rfl rfl 26 _ F11g.out (by rw [SCT.out]; kernel_rfl) (by rw [SCL.out]) OCT.out ?_; go_frame))
            have hgr : wg.grownBy (wg.setRow g11 ct.toArray) (some g11) := setRow_grown _
            have hrow := setRow_heap _ _ _ ct.toArray _ _ F11g.out
            generalize hwh : wg.setRow g11 ct.toArray = wh at hgr hrow ⊢
            have GH := Lib.hid (GG.out.boxed F11g.out (by decide) (by decide) (by decide) (by decide) (by decide) G11.out hgr NOV.out)
            have F11h := Lib.hid hrow
            have jm := JM.out
            have hm15 := HM.out
            clear hgr hrow hwh GG F13g F11g
            go_roundw
            case rel =>
              refine ⟨j + 1, lv2, M2, B2, Mt2, d2, P ++ [a], goO (goW z) a, by go_num, JLT.out, by rw [List.length_append, PJ.out]; rfl, ?_, PL2.out, E2.out, MKQ.out, GH.out, (by rw [← ET.out]; exact F11h.out), fun _ => ⟨a, AM.out, by simp, rfl, fun i hi hni hne => TOP.out i hi (fun h => hni (List.mem_append_left _ h)) hne⟩⟩
              rw [List.nodup_append]
              exact ⟨PN.out, by simp, fun x hx y hy => by rw [List.mem_singleton.1 hy]; exact fun e => AN.out (e ▸ hx)⟩
            case measure => simp [intOf]; omega
        · have hjm : j = k := by omega
          have q0 : ¬ ((j : Int) < (k : Int)) := by omega
          clear hlt hj LAST ECL
          go_wp2_with fail
          clear q0
          refine BE.out.mono ?_
          intro e w2 hB
          obtain ⟨top, lv2, Mt2, d2, rfl, hbp, hg2, hr2⟩ := GR.out.best hB
          have ht : top.1 = hdId startX.head := by
            have trb := GR.out.tr
            have hub := GR.out.hung
            rw [EL.out] at hbp trb hub
            rcases go_best WK.out HM.out trb hub MKB.out PL.out hbp with ⟨_, h⟩ | ⟨a, ha, hna, _⟩
            · exact h
            · exact absurd (go_full PN.out PL.out (by rw [PJ.out]; exact hjm) a ha) hna
          have TE := Lib.hid ht
          have G2 := Lib.hid hg2
          have ST : Hid (Calls Tryz.prog 27 #[(.pointer (some ⟨tb, 0, none⟩))] w2 fun e w' => e = .returned (.agg ((hdId startX.head).map bV).toArray) ∧ Below w2.heap.size w2 w') := by
            have h := ctstart_any w2 _ tb tm M G2.out.ct G2.out.tr
            rw [EL.out] at h
            exact h
          have SM : Hid (∀ W, Calls Tryz.prog 17 #[.agg (top.1.map bV).toArray, .agg ((hdId startX.head).map bV).toArray] W (SmPost true W)) := fun W => by
            have h := same_any top.1 (hdId startX.head) top.2 (hdId_length _) W
            rw [decide_eq_true TE.out] at h
            exact h
          have SU : Hid (sumU (ndM M) B = 2 * k) := by
            have trb := G2.out.tr
            rw [EL.out] at trb
            have h := sum_two trb PN.out PL.out WK.out HM.out MKB.out G2.out.mks.bad.apart
            show _ = _
            rw [EL.out, h, PJ.out, hjm]
          have AL : Hid (∀ W, Below w2.heap.size w2 W → Calls Tryz.prog 25 #[(.pointer (some ⟨b, 0, none⟩))] W (AlP (ndM M) B W)) := fun W hW => bkall_any W w.heap.size b tb bm mm _ tm lv2 B Mt2 d2 M (G2.out.mks.below hW) (G2.out.ct.below hW) G2.out.tr (by rw [SU.out]; have := HM.out; omega)
          obtain ⟨ct, hct⟩ : ∃ ct, ct = top.1.map bV := ⟨_, rfl⟩
          rw [← hct] at SM ⊢
          obtain ⟨cs, hcs⟩ : ∃ cs, cs = (hdId startX.head).map bV := ⟨_, rfl⟩
          rw [← hcs] at SM ST
          have OLD := Lib.hid G2.out.old
          have hm15 := HM.out
          clear hB hbp hg2 hr2 ht hct hcs BE GR F11 hjm
          go_wp2_with fail
          refine ST.out.mono ?_
          rintro e w3 ⟨rfl, bb⟩
          have C3 := Lib.hid bb
          clear bb ST
          go_wp2_with fail
          refine (SM.out w3).mono ?_
          rintro e w4 ⟨rfl, bb⟩
          have C4 := Lib.hid (C3.out.trans (bb.mono C3.out.size))
          clear bb SM C3
          go_wp2_with fail
          refine (AL.out w4 C4.out).mono ?_
          rintro e w5 ⟨v, l, rfl, hat, hl, bb⟩
          obtain ⟨sp', cap', rfl⟩ := hat.shape
          have B5 := Lib.hid ((OLD.out.trans (C4.out.mono OLD.out.size)).trans (bb.mono (Nat.le_trans OLD.out.size C4.out.size)))
          rw [hl, SU.out]
          have e2 : ((2 * k : Nat) : Int) = 2 * (k : Int) := by omega
          clear hat hl bb AL
          go_wp2_with fail
          go_ret
          exact ⟨by simp [e2], B5.out⟩
end Go.Proofs.YtdhcjaflbfpalaaGreatDoor.Sha
