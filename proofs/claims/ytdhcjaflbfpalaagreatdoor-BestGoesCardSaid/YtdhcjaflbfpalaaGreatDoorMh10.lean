/-
  Texts of this proof joined into one file: PathM, RefHd, RwApp, HeldEnd, RefTreeAdd, RefTreeNew, CtMath. What each holds, and under which conditions, its own first sentence tells.
-/
import Derived.Test.YtdhcjaflbfpalaaGreatDoorMh09
import Derived.Test.YtdhcjaflbfpalaaGreatDoorMh03
import Derived.Test.YtdhcjaflbfpalaaGreatDoorMh05
import Derived.Test.YtdhcjaflbfpalaaGreatDoorMh04
import Derived.Test.YtdhcjaflbfpalaaGreatDoorMh08
/-
  The tree of headers as a list: chains from a node down to the start, what two chains have in common, the ids of places. No conditions.
-/
namespace Go.Proofs.YtdhcjaflbfpalaaGreatDoor.Sha
open Go Go.RowKit
theorem upL_mem {L : List TNd} (hd : Down L) : ∀ (n k : Nat), k ≤ n → k < L.length → ∀ j ∈ upL L (k : Int), 0 ≤ j ∧ j < (L.length : Int)
  | n, k, hkn, hk, j, hj => by
    obtain ⟨x, hx⟩ : ∃ x, L[k]? = some x := ⟨_, List.getElem?_eq_getElem hk⟩
    have hp := hd k x hx
    rw [upL_step hd hx] at hj
    rcases List.mem_cons.1 hj with rfl | hj
    · omega
    · by_cases h0 : x.parent < 0
      · rw [upL_neg h0] at hj
        cases hj
      · obtain ⟨p, hpe⟩ : ∃ p : Nat, x.parent = (p : Int) := ⟨x.parent.toNat, by omega⟩
        rw [hpe] at hj
        match n, hkn with
        | 0, h => exact absurd (show p < 0 by omega) (by omega)
        | n + 1, h => exact upL_mem hd n p (by omega) (by omega) j hj
/-- The start alone has no parent. -/
def Rooted (L : List TNd) : Prop := ∀ (i : Nat) x, L[i]? = some x → 0 < i → 0 ≤ x.parent
/-- How many two lists have in common from the first on. -/
def comP : List Int → List Int → Nat
  | x :: l, y :: m => if x = y then comP l m + 1 else 0
  | _, _ => 0
theorem upL_last {L : List TNd} (hd : Down L) (hr : Rooted L) : ∀ (n k : Nat), k ≤ n → k < L.length → (upL L (k : Int)).getLast? = some 0
  | n, k, hkn, hk => by
    obtain ⟨x, hx⟩ : ∃ x, L[k]? = some x := ⟨_, List.getElem?_eq_getElem hk⟩
    have hp := hd k x hx
    rw [upL_step hd hx]
    by_cases h0 : k = 0
    · subst h0
      rw [upL_neg (by omega)]
      rfl
    · have hx0 := hr k x hx (by omega)
      obtain ⟨p, hpe⟩ : ∃ p : Nat, x.parent = (p : Int) := ⟨x.parent.toNat, by omega⟩
      rw [hpe]
      match n, hkn with
      | 0, h => exact absurd h (by omega)
      | n + 1, h =>
        have ih := upL_last hd hr n p (by omega) (by omega)
        rw [List.getLast?_cons, ih]
        rfl
/-- The ids of these places. -/
def idsT (L : List TNd) (l : List Int) : List (List UInt8) := l.map fun j => (L.getD j.toNat ndZ).id
def comT (L : List TNd) (x y : Int) : Nat := comP (upL L x).reverse (upL L y).reverse
def backT (L : List TNd) (x y : Int) : List (List UInt8) := idsT L ((upL L x).take ((upL L x).length - comT L x y))
def onT (L : List TNd) (x y : Int) : List (List UInt8) := idsT L (((upL L y).take ((upL L y).length - comT L x y)).reverse)
def meetT (L : List TNd) (x y : Int) : List UInt8 := (L.getD ((upL L x).getD ((upL L x).length - comT L x y) 0).toNat ndZ).id
end Go.Proofs.YtdhcjaflbfpalaaGreatDoor.Sha

/-
  The statements' own bytes of a header, and its id: new memory; nothing that was there turns. Condition: a header as the model has it.
-/
namespace Go.Proofs.YtdhcjaflbfpalaaGreatDoor.Sha
open Go Go.RowKit
theorem OwnG.keepB {base : Nat} {r : Option Nat} {w0 w w' : World} {v : Value} {bs : List UInt8} (h : OwnG base r w0 w v bs) (hb : Below w.heap.size w w') : OwnG base r w0 w' v bs := ⟨own_kept h.1 hb, grownBy_below' h.2.1 hb, h.2.2.1, Nat.le_trans h.2.2.2 hb.size⟩
set_option maxHeartbeats 2000000 in
set_option maxRecDepth 100000 in
theorem rheadb_any (h : THd) (hh : HdOk h) (w : World) :
    Calls Tryz.prog 35 #[.agg (hdL h).toArray] w fun e w' => ∃ v', e = .returned v' ∧ w'.ownsRow w.heap.size 5 1 v' (hdB h).length ((hdB h).map bV) ∧ Below w.heap.size w w' := by
  obtain ⟨i0, hi, hz0, hz1, hz2⟩ := info_parts info_u8
  have LC : Hid ((hdL h).length = 68) := hdL_length hh
  have LCS : Hid ((hdL h).toArray.size = 68) := hdL_size hh
  have HB : Hid (hdB h = leB h.ver 4 ++ h.prev ++ h.root ++ leB h.time 4 ++ leB h.work 4 ++ leB h.nonce 4) := rfl
  have KC : Hid (∀ (W : World) (g : Nat), W.heap[g]? = some (.cells (hdL h).toArray 28 (0, 0)) → W.cell? ⟨g, 0, none⟩ = some (.int .u32 (h.ver : Int)) ∧ W.cell? ⟨g, 65, none⟩ = some (.int .u32 (h.time : Int)) ∧ W.cell? ⟨g, 66, none⟩ = some (.int .u32 (h.work : Int)) ∧ W.cell? ⟨g, 67, none⟩ = some (.int .u32 (h.nonce : Int))) := fun W g q => (HdBox.mk q).cells hh
  have KP : Hid (∀ (W : World) (g : Nat), W.heap[g]? = some (.cells (hdL h).toArray 28 (0, 0)) → SrcB W (.slice (some ⟨g, 1, none⟩) 32 32) h.prev) := fun W g q => src_range (HdBox.mk q).prev hh.2.1.symm (by omega) (Nat.le_refl _)
  have KR : Hid (∀ (W : World) (g : Nat), W.heap[g]? = some (.cells (hdL h).toArray 28 (0, 0)) → SrcB W (.slice (some ⟨g, 33, none⟩) 32 32) h.root) := fun W g q => src_range ((HdBox.mk q).root hh) hh.2.2.1.symm (by omega) (Nat.le_refl _)
  obtain ⟨bx, hbx⟩ : ∃ bx, bx = hdB h := ⟨_, rfl⟩
  rw [← hbx] at HB ⊢
  obtain ⟨h1, h2, h3, h4, h5, h6⟩ := hh
  obtain ⟨cs, hcs⟩ : ∃ cs, cs = hdL h := ⟨_, rfl⟩
  rw [← hcs] at LC LCS KC KP KR ⊢
  obtain ⟨vr, pv, rt, tm, wk, nc⟩ := h
  simp only at h1 h2 h3 h4 h5 h6 HB KC KP KR
  have LPpv : Hid (pv.length = 32) := h2
  have LPrt : Hid (rt.length = 32) := h3
  have B1' := Lib.hid h1
  have B4' := Lib.hid h4
  have B5' := Lib.hid h5
  have B6' := Lib.hid h6
  clear hbx hcs h1 h2 h3 h4 h5 h6
  go_enter Tryz.func35, Tryz.ntmps35
  go_upto_region 1 with fail
  have f1 := heap_alloc_new w (.cells cs.toArray 28 (0, 0))
  have bb := (Below.refl w.heap.size w).alloc (Nat.le_refl _) (.cells cs.toArray 28 (0, 0))
  generalize hw1 : World.alloc _ _ = w0
  have e1 : w.alloc (.cells cs.toArray 28 (0, 0)) = w0 := hw1
  rw [e1] at f1 bb
  obtain ⟨g1, hg1⟩ : ∃ g1, g1 = w.heap.size := ⟨_, rfl⟩
  rw [← hg1] at f1 ⊢
  have F0 := Lib.hid f1
  have B0 := Lib.hid bb
  clear f1 bb hw1 e1 hg1
  refine wp_region_held_drew (S := (fun w' => w'.heap[g1]? = some (.cells cs.toArray 28 (0, 0)))) (by kernel_rfl) (row_below F0.out (Below.drew (Below.refl _ _))) (fun hHeld => ?_)
  have B0 := Lib.hid (B0.out.trans ((Below.drew (Below.refl _ _)).mono B0.out.size))
  have F1 := Lib.hid hHeld
  generalize hwd : w0.drew = wd at B0 F1 hHeld ⊢
  clear hwd
  obtain ⟨b1, hb1⟩ : ∃ b1, b1 = wd.heap.size := ⟨_, rfl⟩
  have BS : Hid (b1 ≤ wd.heap.size) := by show _ ≤ _; omega
  have BE := Lib.hid hb1
  have LN0 : Hid (([] ++ leB vr 4).length = 4) := by show _ = _; simp [leB_length]
  clear hb1
  refine held_take (i := 0) (v := (.pointer (some ⟨g1, 0, none⟩))) rfl (by kernel_rfl) (by kernel_rfl) (by kernel_rfl) (fun _ _ _ h => h) (Or.inl ⟨by rfl, fun w' _ => by kernel_rfl⟩) hHeld ?_
  go_frame
  refine held_take (i := 1) (v := (.int .u32 (vr : Int))) rfl (by kernel_rfl) (by kernel_rfl) (by kernel_rfl) (fun _ _ _ h => h) (yieldsIf_load_one (by rfl) 24 (.tmp 4) rfl g1 (0) rfl _ _ (fun w' hw' => (KC.out _ _ hw').1) Tryz.underlying24 rfl) hHeld ?_
  go_frame
  refine held_take (i := 3) (v := (.pointer (some ⟨g1, 1, none⟩))) rfl (by kernel_rfl) (by kernel_rfl) (by kernel_rfl) (fun _ _ _ h => h) (Or.inl ⟨by rfl, fun w' _ => by kernel_rfl⟩) hHeld ?_
  go_frame
  refine held_take (i := 4) (v := (.slice (some ⟨g1, 1, none⟩) 32 32)) rfl (by kernel_rfl) (by kernel_rfl) (by kernel_rfl) (fun _ _ _ h => h) (Or.inl ⟨by rfl, fun w' _ => by go_simp⟩) hHeld ?_
  go_frame
  refine wpAnyH_ready (rs := [2]) (by kernel_rfl) (by simp) (held_cons rfl (fun K hK => ?_) AllReadyH.nil)
  go_simp
  refine (rfour_g vr b1 [] (.slice none 0 0) wd B1'.out BS.out (by simp) (World.ownsRow_nil _ _ _ _)).mono ?_
  rintro e v1 ⟨xv1, rfl, og⟩
  have OG := Lib.hid og
  have hv1 := row_below F1.out (below_made OG.out.2.1)
  clear og hHeld
  go_wp2_with fail
  refine hK.out _ _ hv1 (fun hHeld => ?_)
  clear hK K hv1
  refine wpAnyH_ready (rs := [5]) (by kernel_rfl) (by simp) (held_cons rfl (fun K hK => ?_) AllReadyH.nil)
  rw [if_pos (by rfl)]
  refine wp_append_g v1 (.tmp 6) (.tmp 8) 89 rfl b1 5 i0 Tryz.underlying89 hi hz0 hz1 hz2 xv1 _ _ rfl OG.out.1 (.slice (some ⟨g1, 1, none⟩) 32 32) pv rfl (KP.out _ _ hHeld) (by rw [LN0.out, LPpv.out]; omega) OG.out.2.2.2 ?_
  intro xv2 v2 q1 q2 q3
  have OG := Lib.hid (OG.out.app q1 q2 q3)
  have hv2 := row_below F1.out (below_made OG.out.2.1)
  clear q1 q2 q3 hHeld
  go_frame
  refine hK.out _ _ hv2 (fun hHeld => ?_)
  clear hK K hv2
  refine held_take (i := 6) (v := xv2) rfl (by kernel_rfl) (by kernel_rfl) (by kernel_rfl) (fun _ _ _ h => h) (Or.inl ⟨by rfl, fun w' _ => by kernel_rfl⟩) hHeld ?_
  go_frame
  refine wpAnyH_done (by kernel_rfl) ?_ _
  clear hHeld
  obtain ⟨c1, hc1⟩ : ∃ c1, c1 = [] ++ leB vr 4 ++ pv := ⟨_, rfl⟩
  rw [← hc1] at OG
  have C1 := Lib.hid hc1
  have L1 : Hid (c1.length = 36) := by show _ = _; rw [hc1, List.length_append, LN0.out, LPpv.out]
  have S1 := Lib.hid (KR.out _ _ (row_below F1.out (below_made OG.out.2.1)))
  clear hc1
  go_upto_region 3 with (at_builtin; go_loud (refine wpList_append_g _ rfl _ _ 89 rfl b1 5 i0 Tryz.underlying89 hi hz0 hz1 hz2 _ _ _ rfl OG.out.1 (.slice (some ⟨g1, 33, none⟩) 32 32) rt rfl S1.out (by rw [L1.out, LPrt.out]; omega) OG.out.2.2.2 ?_; intro x9 w9 q1 q2 q3; have OG := Lib.hid (OG.out.app q1 q2 q3); clear q1 q2 q3; go_frame))
  obtain ⟨c2, hc2⟩ : ∃ c2, c2 = c1 ++ rt := ⟨_, rfl⟩
  rw [← hc2] at OG
  have C2 := Lib.hid hc2
  have L2 : Hid (c2.length = 68) := by show _ = _; rw [hc2, List.length_append, L1.out, LPrt.out]
  have F9 := Lib.hid (row_below F1.out (below_made OG.out.2.1))
  clear hc2 S1
  refine wp_region_held_drew (S := (fun w' => w'.heap[g1]? = some (.cells cs.toArray 28 (0, 0)))) (by kernel_rfl) (row_below F9.out (Below.drew (Below.refl _ _))) (fun hHeld => ?_)
  have OG := Lib.hid (OG.out.keepB (Below.drew (Below.refl _ _)))
  generalize hwd : w9.drew = wd at OG hHeld ⊢
  clear hwd
  refine held_take (i := 0) (v := x9) rfl (by kernel_rfl) (by kernel_rfl) (by kernel_rfl) (fun _ _ _ h => h) (Or.inl ⟨by rfl, fun w' _ => by kernel_rfl⟩) hHeld ?_
  go_frame
  refine held_take (i := 1) (v := (.pointer (some ⟨g1, 65, none⟩))) rfl (by kernel_rfl) (by kernel_rfl) (by kernel_rfl) (fun _ _ _ h => h) (Or.inl ⟨by rfl, fun w' _ => by kernel_rfl⟩) hHeld ?_
  go_frame
  refine held_take (i := 2) (v := (.int .u32 (tm : Int))) rfl (by kernel_rfl) (by kernel_rfl) (by kernel_rfl) (fun _ _ _ h => h) (yieldsIf_load_one (by rfl) 24 (.tmp 15) rfl g1 (65) rfl _ _ (fun w' hw' => (KC.out _ _ hw').2.1) Tryz.underlying24 rfl) hHeld ?_
  go_frame
  refine held_take (i := 4) (v := (.pointer (some ⟨g1, 66, none⟩))) rfl (by kernel_rfl) (by kernel_rfl) (by kernel_rfl) (fun _ _ _ h => h) (Or.inl ⟨by rfl, fun w' _ => by kernel_rfl⟩) hHeld ?_
  go_frame
  refine held_take (i := 5) (v := (.int .u32 (wk : Int))) rfl (by kernel_rfl) (by kernel_rfl) (by kernel_rfl) (fun _ _ _ h => h) (yieldsIf_load_one (by rfl) 24 (.tmp 18) rfl g1 (66) rfl _ _ (fun w' hw' => (KC.out _ _ hw').2.2.1) Tryz.underlying24 rfl) hHeld ?_
  go_frame
  refine held_take (i := 7) (v := (.pointer (some ⟨g1, 67, none⟩))) rfl (by kernel_rfl) (by kernel_rfl) (by kernel_rfl) (fun _ _ _ h => h) (Or.inl ⟨by rfl, fun w' _ => by kernel_rfl⟩) hHeld ?_
  go_frame
  refine held_take (i := 8) (v := (.int .u32 (nc : Int))) rfl (by kernel_rfl) (by kernel_rfl) (by kernel_rfl) (fun _ _ _ h => h) (yieldsIf_load_one (by rfl) 24 (.tmp 21) rfl g1 (67) rfl _ _ (fun w' hw' => (KC.out _ _ hw').2.2.2) Tryz.underlying24 rfl) hHeld ?_
  go_frame
  refine wpAnyH_ready (rs := [3]) (by kernel_rfl) (by simp) (held_cons rfl (fun K hK => ?_) AllReadyH.nil)
  go_simp
  refine (rfour_g tm b1 (c2) x9 wd B4'.out OG.out.2.2.2 (by rw [L2.out]; omega) OG.out.1).mono ?_
  rintro e v1 ⟨xv1, rfl, og⟩
  have OG := Lib.hid (OG.out.trans og)
  have hv1 := row_below F1.out (below_made OG.out.2.1)
  clear og hHeld
  go_wp2_with fail
  refine hK.out _ _ hv1 (fun hHeld => ?_)
  clear hK K hv1
  refine wpAnyH_ready (rs := [6]) (by kernel_rfl) (by simp) (held_cons rfl (fun K hK => ?_) AllReadyH.nil)
  go_simp
  refine (rfour_g wk b1 (c2 ++ leB tm 4) xv1 v1 B5'.out OG.out.2.2.2 (by rw [List.length_append, leB_length, L2.out]; omega) OG.out.1).mono ?_
  rintro e v2 ⟨xv2, rfl, og⟩
  have OG := Lib.hid (OG.out.trans og)
  have hv2 := row_below F1.out (below_made OG.out.2.1)
  clear og hHeld
  go_wp2_with fail
  refine hK.out _ _ hv2 (fun hHeld => ?_)
  clear hK K hv2
  refine wpAnyH_ready (rs := [9]) (by kernel_rfl) (by simp) (held_cons rfl (fun K hK => ?_) AllReadyH.nil)
  go_simp
  refine (rfour_g nc b1 (c2 ++ leB tm 4 ++ leB wk 4) xv2 v2 B6'.out OG.out.2.2.2 (by rw [List.length_append, List.length_append, leB_length, leB_length, L2.out]; omega) OG.out.1).mono ?_
  rintro e v3 ⟨xv3, rfl, og⟩
  have OG := Lib.hid (OG.out.trans og)
  have hv3 := row_below F1.out (below_made OG.out.2.1)
  clear og hHeld
  go_wp2_with fail
  refine hK.out _ _ hv3 (fun hHeld => ?_)
  clear hK K hv3
  refine held_take (i := 10) (v := xv3) rfl (by kernel_rfl) (by kernel_rfl) (by kernel_rfl) (fun _ _ _ h => h) (Or.inl ⟨by rfl, fun w' _ => by kernel_rfl⟩) hHeld ?_
  go_frame
  refine wpAnyH_done (by kernel_rfl) ?_ _
  clear hHeld
  go_wp2_with fail
  go_ret
  have e : bx = c2 ++ leB tm 4 ++ leB wk 4 ++ leB nc 4 := by rw [HB.out, C2.out, C1.out, List.nil_append]
  rw [e]
  exact ⟨_, rfl, own_base OG.out.1 (by have := B0.out.size; have := BE.out; omega), B0.out.trans ((below_made OG.out.2.1).mono B0.out.size)⟩
set_option maxHeartbeats 1000000 in
set_option maxRecDepth 100000 in
theorem rheadid_any (h : THd) (hh : HdOk h) (w : World) :
    Calls Tryz.prog 12 #[.agg (hdL h).toArray] w fun e w' => e = .returned (.agg ((hdId h).map bV).toArray) ∧ Below w.heap.size w w' := by
  have TL : Hid ((hdB h).length = 80) := by show _ = _; simp [hdB, leB_length, hh.2.1, hh.2.2.1]
  have TB : Hid (∀ W, Calls Tryz.prog 35 #[.agg (hdL h).toArray] W fun e w' => ∃ v', e = .returned v' ∧ w'.ownsRow W.heap.size 5 1 v' (hdB h).length ((hdB h).map bV) ∧ Below W.heap.size W w') := fun W => rheadb_any h hh W
  have LC' : Hid ((hdL h).toArray.size = 68) := hdL_size hh
  obtain ⟨ct, hct⟩ : ∃ ct, ct = hdL h := ⟨_, rfl⟩
  rw [← hct] at TB LC' ⊢
  unfold hdId
  obtain ⟨dg, hdg⟩ : ∃ dg, dg = ((sha (sha (hdB h))).map bV).toArray := ⟨_, rfl⟩
  have HOne : Hid (dg.all (·.oneCell') = true) := by show _ = _; rw [hdg]; exact bV_one _
  have HLen : Hid (dg.size = 32) := by show _ = _; rw [hdg]; simp [sha_length]
  have TW : Hid (∀ W sp n cap, SrcB W (.slice sp n cap) (hdB h) → n ≤ 35184372088832 → Calls Tryz.prog 34 #[.slice sp n cap] W fun e w' => e = .returned (.agg dg) ∧ Below W.heap.size W w') := fun W sp n cap h1 h2 => by rw [hdg]; exact ref_twice (hdB h) sp n cap W h1 h2
  rw [← hdg]
  clear hdg hct hh
  go_enter Tryz.func12, Tryz.ntmps12
  go_upto_region 1 with fail
  have f1 := row_below (heap_alloc_new w (.cells ct.toArray 28 (0, 0))) ((Below.refl _ _).alloc (Nat.le_refl _) (.cells (List.replicate 32 (bV 0)).toArray 26))
  have f2 := heap_alloc_new (w.alloc (.cells ct.toArray 28 (0, 0))) (.cells (List.replicate 32 (bV 0)).toArray 26)
  have b1 := ((Below.refl w.heap.size w).alloc (Nat.le_refl _) (.cells ct.toArray 28 (0, 0))).alloc (by simp) (.cells (List.replicate 32 (bV 0)).toArray 26)
  rw [World.size_alloc] at f2
  generalize hw1 : World.alloc _ _ = w1
  have e1 : (w.alloc (.cells ct.toArray 28 (0, 0))).alloc (.cells (List.replicate 32 (bV 0)).toArray 26) = w1 := hw1
  rw [e1] at f1 f2 b1
  have F1 := Lib.hid f1
  have F2 := Lib.hid f2
  have B1 := Lib.hid b1
  clear f1 f2 b1 hw1 e1
  go_wp2_with ((with_reducible show wpList _ _ _ _ _ _); refine wpList_load_row rfl 28 (.tmp 1) rfl w.heap.size rfl 28 ct.toArray (0, 0) _ F1.out Tryz.underlying28 rfl (by rw [LC'.out]; kernel_rfl) ?_; go_frame)
  refine (TB.out w1).mono ?_
  rintro e w2 ⟨v2, rfl, ho, hb2⟩
  have S2 := Lib.hid (src_own ho)
  obtain ⟨s2, n2, c2, rfl, hn2, _⟩ := (src_own ho).shape'
  have HN : Hid (n2 ≤ 35184372088832) := by show _ ≤ _; rw [hn2, TL.out]; omega
  have B2 := Lib.hid (B1.out.trans (hb2.mono B1.out.size))
  have F2 := Lib.hid (row_below F2.out hb2)
  clear ho hb2 hn2
  go_wp2_with fail
  refine (TW.out w2 _ _ _ S2.out HN.out).mono ?_
  rintro e w3 ⟨rfl, hb3⟩
  have B3 := Lib.hid (B2.out.trans (hb3.mono B2.out.size))
  have F3 := Lib.hid (row_below F2.out hb3)
  clear hb3
  go_wp2_with ((with_reducible show wpList _ _ _ _ _ _); refine wpList_store_row rfl 26 (.tmp 2) (.tmp 5) rfl (w.heap.size + 1) dg rfl rfl 26 _ F3.out (by rw [HLen.out]; kernel_rfl) (by rw [HLen.out]; rfl) HOne.out ?_; go_frame)
  refine bodyPost_ret (results_cell_row rfl _ _ (w.heap.size + 1) 26 dg (0, 0) (.array 32 5) rfl (setRow_heap _ _ _ _ _ _ F3.out) Tryz.underlying26 rfl (by rw [HLen.out]; kernel_rfl)) rfl ⟨rfl, below_setRow B3.out (Nat.le_succ _) _⟩
end Go.Proofs.YtdhcjaflbfpalaaGreatDoor.Sha

/-
  A row put behind an own one, whatever stands in either. No conditions beyond those that each states.
-/
namespace Go.Proofs.YtdhcjaflbfpalaaGreatDoor.Sha
open Go Go.RowKit
theorem RwAt.flat {k : Nat} {w : World} {b o : Nat} {L : List (List Value)} (ha : AllK k L) (h : ∀ i x, L[i]? = some x → w.rangeAt b (o + i * k) x) : w.rangeAt b o L.flatten := by
  intro j u hj
  have hjl := (List.getElem?_eq_some_iff.1 hj).1
  rw [flatten_length L ha] at hjl
  have hk : 0 < k := by
    rcases Nat.eq_zero_or_pos k with h0 | h0
    · rw [h0, Nat.mul_zero] at hjl; omega
    · exact h0
  have hq : j / k < L.length := Nat.div_lt_of_lt_mul (by rw [Nat.mul_comm]; exact hjl)
  obtain ⟨x, hx⟩ : ∃ x, L[j / k]? = some x := ⟨_, List.getElem?_eq_getElem hq⟩
  have hm := Nat.div_add_mod j k
  have hr := Nat.mod_lt j hk
  have h1 := flatten_get L (j / k) x ha hx (j % k) hr
  rw [Nat.mul_comm] at hm
  rw [hm, hj] at h1
  have h2 := h (j / k) x hx (j % k) u h1.symm
  rwa [Nat.add_assoc, hm] at h2
/-- A row put behind an own one, whatever stands in either. -/
theorem wp_append_rw (w : World) {op : Oper} {a : Act} {K : Act → World → Prop} {Q : Exit → Act → World → Prop} (s x : Operand) (t : TypeId)
    (hop : op.op = Op.call { callee := Callee.builtin Builtin.append, args := #[s, x], argTypes := #[t, t] })
    (base : Nat) (e : TypeId) (i : TypeInfo) (z : Value) (k bytes : Nat) (h1 : Tryz.prog.underlying t = some (.slice e)) (h2 : Tryz.prog.info? e = some i) (hz : i.zero = some z) (hk : i.size = k) (hb : i.bytes = bytes) (hzs : z.cells.size = k) (hk0 : 0 < k)
    (v : Value) (L : List (List Value)) (hs : a.eval s = v) (hown : RwOwn k e base w v L) (y : Value) (M : List (List Value)) (hx : a.eval x = y) (hsrc : RwAt k w y M) (hone : ∀ m ∈ M, ∀ u ∈ m, u.oneCell' = true)
    (hlen : (L.length + M.length) * bytes ≤ 140737488355328) (hmax : L.length + M.length ≤ maxLen) (hbase : base ≤ w.heap.size)
    (hK : ∀ v' w', RwOwn k e base w' v' (L ++ M) → w.grownBy w' v.ownBlock → K (a.put op.dst v') w') : op.wp Tryz.prog a w K Q := by
  obtain ⟨hM, sp, cap, rfl, hc, hr⟩ := hsrc
  cases M with
  | nil =>
    have hrun := run_append_any0 (P := Tryz.prog) (w := w) base t op.type e i h1 h2 v L.length L.flatten (by rw [hk]; exact hown.1) sp cap
    unfold Oper.wp
    simp [execOp, hop, resolve, invoke, builtin, hs, hx, hrun, Result.andThen]
    refine hK v w ?_ (grownBy_refl _ _)
    rw [List.append_nil]
    exact hown
  | cons m M =>
    obtain ⟨b, o, rfl, hr2⟩ := hr (by simp)
    have hf := RwAt.flat hM hr2
    obtain ⟨v', w', hrun, a1, a2, _, _⟩ := run_append_own_at (P := Tryz.prog) w base t op.type e i z k bytes h1 h2 hz hk hb hzs hk0 v L.length L.flatten hown.1 ⟨b, o, none⟩ (m :: M).length cap (m :: M).flatten (flatten_length _ hM)
      (fun j u hu => by rw [Addr.add_mid]; exact hf j u hu) (fun u hu => by
        obtain ⟨q, hq, hu⟩ := List.mem_flatten.1 hu
        exact hone q hq u hu) hmax hlen hbase
    unfold Oper.wp execOp
    simp only [hop, resolve, invoke, builtin, Sem.run_bind, Sem.run_pure, Result.andThen_ok, List.map_toArray, List.map_cons, List.map_nil, hs, hx, hrun]
    refine hK v' w' ⟨?_, fun q hq => ?_⟩ a2
    · rw [List.length_append, List.flatten_append]
      exact a1
    · rcases List.mem_append.1 hq with h | h
      · exact hown.2 q h
      · exact hM q h
end Go.Proofs.YtdhcjaflbfpalaaGreatDoor.Sha

/-
  What may be read first in a region that draws its order and whose last operations (Z) write into what was read: the condition on the world need not hold behind those. No conditions beyond those that each states.
-/
namespace Go.Proofs.YtdhcjaflbfpalaaGreatDoor.Sha
open Go Go.RowKit
section
variable {P : Program} {md : Region.Mode} {ops : Array Oper} {Q : Exit → Act → World → Prop} {S T : World → Prop} {Z : List Nat}
/-- None of Z has come up. -/
def endOpen (Z : List Nat) (done : Array Bool) : Bool := Z.all fun z => !done.getD z true
/-- Any order; the condition behind each operation while none of Z has come up. -/
def EndAny (P : Program) (md : Region.Mode) (ops : Array Oper) (Q : Exit → Act → World → Prop) (S : World → Prop) (Z : List Nat) : Nat → Array Bool → Act → World → Prop
  | 0, done, a, w => Region.ready md ops done = [] ∧ Q .normal a w
  | f + 1, done, a, w => (Region.ready md ops done = [] → Q .normal a w) ∧ ∀ j ∈ Region.ready md ops done, wpOp P ops Q j (fun b u => (endOpen Z (done.setIfInBounds j true) = true → S u) ∧ EndAny P md ops Q S Z f (done.setIfInBounds j true) b u) a w
theorem EndAny.any : ∀ (f : Nat) (done : Array Bool) (a : Act) (w : World), EndAny P md ops Q S Z f done a w → wpAny P md ops Q f done a w
  | 0, _, _, _, h => h
  | f + 1, _, _, _, h => ⟨h.1, fun j hj => wpOp_mono (fun b u hb => EndAny.any f _ b u hb.2) (h.2 j hj)⟩
/-- j waits for i, at once or through others. -/
def endAnc (md : Region.Mode) (ops : Array Oper) (i : Nat) : Nat → Nat → Bool
  | 0, _ => false
  | f + 1, j => match ops[j]? with | none => false | some o => o.after.any fun e => Region.binds md e && (e.on == i || endAnc md ops i f e.on)
def endWaits (md : Region.Mode) (ops : Array Oper) (Z : List Nat) (i : Nat) : Bool := Z.all fun z => endAnc md ops i ops.size z
/-- Who has come up has all come up that it waits for. -/
def EndClosed (md : Region.Mode) (ops : Array Oper) (done : Array Bool) : Prop := ∀ (j : Nat) (o : Oper), ops[j]? = some o → done.getD j true = true → ∀ e ∈ o.after, Region.binds md e = true → done.getD e.on false = true
def endClosed (md : Region.Mode) (ops : Array Oper) (done : Array Bool) : Bool := (List.range ops.size).all fun j => match ops[j]? with | none => true | some o => !done.getD j true || o.after.all fun e => !Region.binds md e || done.getD e.on false
theorem endClosed_spec {done : Array Bool} (h : endClosed md ops done = true) : EndClosed md ops done := by
  intro j o hj hd e he hb
  have h1 := List.all_eq_true.1 h j (List.mem_range.2 (Array.getElem?_eq_some_iff.1 hj).1)
  rw [hj] at h1
  simp only [hd, Bool.not_true, Bool.false_or] at h1
  obtain ⟨x, hx, rfl⟩ := Array.getElem_of_mem he
  have h2 := Array.all_eq_true.1 h1 x hx
  rw [hb, Bool.not_true, Bool.false_or] at h2
  exact h2
theorem getD_both {done : Array Bool} {i : Nat} (h0 : done.getD i true = false) (h1 : done.getD i false = true) : False := by
  by_cases hlt : i < done.size
  · simp only [Array.getD, hlt, dif_pos] at h0 h1
    rw [h0] at h1
    cases h1
  · simp only [Array.getD, hlt, dif_neg, not_false_eq_true] at h1
    cases h1
theorem getD_up {done : Array Bool} {i : Nat} (h : done.getD i false = true) : done.getD i true = true := by
  by_cases hlt : i < done.size
  · simp only [Array.getD, hlt, dif_pos] at h ⊢
    exact h
  · simp [Array.getD, hlt]
theorem endAnc_done {done : Array Bool} {i : Nat} (hc : EndClosed md ops done) : ∀ (f j : Nat) (o : Oper), ops[j]? = some o → (∀ e ∈ o.after, Region.binds md e = true → done.getD e.on false = true) → endAnc md ops i f j = true → done.getD i false = true
  | 0, _, _, _, _, h => by cases h
  | f + 1, j, o, hj, ha, h => by
    rw [endAnc, hj] at h
    have h : o.after.any (fun e => Region.binds md e && (e.on == i || endAnc md ops i f e.on)) = true := h
    obtain ⟨x, hx, h2⟩ := Array.any_eq_true.1 h
    rw [Bool.and_eq_true, Bool.or_eq_true, beq_iff_eq] at h2
    have hd := ha _ (Array.getElem_mem hx) h2.1
    rcases h2.2 with h3 | h3
    · rw [← h3]
      exact hd
    · cases hk : ops[(o.after[x]).on]? with
      | none =>
        cases f with
        | zero => cases h3
        | succ f => rw [endAnc, hk] at h3; cases h3
      | some ok => exact endAnc_done hc f _ ok hk (hc _ ok hk (getD_up hd)) h3
theorem endOpen_back {done : Array Bool} {i : Nat} (h : endOpen Z (done.setIfInBounds i true) = true) : endOpen Z done = true := by
  rw [endOpen, List.all_eq_true] at h ⊢
  intro z hz
  have h1 := h z hz
  by_cases hiz : i = z
  · subst hiz
    rw [Bool.not_eq_true'] at h1
    by_cases hlt : i < done.size
    · simp [Array.getD, hlt] at h1
    · simp [Array.getD, hlt] at h1
  · rwa [getD_set_ne true hiz] at h1
theorem endOpen_other {done : Array Bool} {i : Nat} (hi : i ∉ Z) (h : endOpen Z done = true) : endOpen Z (done.setIfInBounds i true) = true := by
  rw [endOpen, List.all_eq_true] at h ⊢
  intro z hz
  have h1 := h z hz
  rw [getD_set_ne true (fun e => hi (by rw [e]; exact hz))]
  exact h1
theorem endOpen_of {done : Array Bool} {i j : Nat} {oj : Oper} (hc : EndClosed md ops done) (hz : endWaits md ops Z i = true) (h0 : done.getD i true = false) (hoj : ops[j]? = some oj) (hall : ∀ e ∈ oj.after, Region.binds md e = true → done.getD e.on false = true) : endOpen Z (done.setIfInBounds j true) = true := by
  rw [endOpen, List.all_eq_true]
  intro z hm
  have h1 := List.all_eq_true.1 hz z hm
  have hjz : j ≠ z := fun e => by
    rw [← e] at h1
    exact getD_both h0 (endAnc_done hc _ j oj hoj hall h1)
  rw [getD_set_ne true hjz, Bool.not_eq_true']
  cases hd : done.getD z true with
  | false => rfl
  | true =>
    cases hk : ops[z]? with
    | none =>
      cases hs : ops.size with
      | zero => rw [hs] at h1; cases h1
      | succ f => rw [hs, endAnc, hk] at h1; cases h1
    | some ok => exact (getD_both h0 (endAnc_done hc _ z ok hk (hc z ok hk hd) h1)).elim
theorem EndAny.first {i : Nat} {oi : Oper} {v : Value} (hi : ops[i]? = some oi) (hiz : i ∉ Z) (hz : (∀ w, T w) ∨ (endWaits md ops Z i = true ∧ ∀ w, S w → T w)) (hsel : ∀ (j : Nat) (o : Oper) cs b, ops[j]? = some o → o.op ≠ .select cs b) (hQ : ∀ c a w, Q (.panic c) (a.put oi.dst v) w → Q (.panic c) a w) :
    ∀ (f : Nat) (done : Array Bool) (a : Act) (w : World), EndClosed md ops done → (∀ j oj, ops[j]? = some oj → j ≠ i → done.getD j true = false → (∀ e ∈ oj.after, Region.binds md e = true → e.on ≠ i) → oi.apart ops oj = true) →
      i ∈ Region.ready md ops done → YieldsIf P ops T oi v a → T w → (endOpen Z done = true → S w) → EndAny P md ops Q S Z f (done.setIfInBounds i true) (a.put oi.dst v) w → EndAny P md ops Q S Z (f + 1) done a w := by
  have lone : ∀ {f : Nat} {done : Array Bool} {a : Act} {w : World}, YieldsIf P ops T oi v a → T w → (endOpen Z done = true → S w) → EndAny P md ops Q S Z f (done.setIfInBounds i true) (a.put oi.dst v) w →
      wpOp P ops Q i (fun b u => (endOpen Z (done.setIfInBounds i true) = true → S u) ∧ EndAny P md ops Q S Z f (done.setIfInBounds i true) b u) a w := fun hy hw hs h => hy.wpOp hi hw ⟨fun ho => hs (endOpen_back ho), h⟩
  intro f
  induction f with
  | zero =>
    intro done a w _ _ hr hy hw hs h
    constructor
    · intro h0
      exact absurd hr (by rw [h0]; simp)
    · intro j hj
      by_cases hji : j = i
      · rw [hji]
        exact lone hy hw hs h
      · have h2 := ready_mono hj hji
        rw [h.1] at h2
        exact absurd h2 (by simp)
  | succ f ih =>
    intro done a w hcl hfree hr hy hw hs h
    constructor
    · intro h0
      exact absurd hr (by rw [h0]; simp)
    · intro j hj
      by_cases hji : j = i
      · rw [hji]
        exact lone hy hw hs h
      · obtain ⟨un, oj, hoj, hall⟩ := mem_ready.1 hj
        have h0 := (mem_ready.1 hr).1
        -- i has not come up yet: who comes up now does not wait for it
        have alone : ∀ e ∈ oj.after, Region.binds md e = true → e.on ≠ i := fun e he hb hei => by
          have h1 := hall e he hb
          rw [hei] at h1
          exact getD_both h0 h1
        have hk := wpOp_putIf hoj (hfree j oj hoj hji un alone) (fun cs b => hsel i oi cs b hi) (fun cs b => hsel j oj cs b hoj) hQ hy (h.2 j (ready_mono hj hji))
        refine wpOp_mono (fun b u hb => ?_) hk
        have hcl' : EndClosed md ops (done.setIfInBounds j true) := by
          intro k ok hok hd e he hb2
          by_cases hjk : j = k
          · rw [← hjk, hoj] at hok
            cases hok
            exact getD_set_true (hall e he hb2)
          · rw [getD_set_ne true hjk] at hd
            exact getD_set_true (hcl k ok hok hd e he hb2)
        have hs2 : endOpen Z (done.setIfInBounds j true) = true → S u := fun ho => hb.2.1 (by
          rw [Array.setIfInBounds_comm _ _ (fun e => hji e.symm)]
          exact endOpen_other hiz ho)
        have ht : T u := by
          rcases hz with hz | ⟨hz, hst⟩
          · exact hz u
          · exact hst u (hs2 (endOpen_of hcl hz h0 hoj hall))
        refine ⟨hs2, ih _ b u hcl' (fun k ok hok hki hun hno => hfree k ok hok hki ?_ hno) (ready_mono hr (fun e => hji e.symm)) hb.1 ht hs2 ?_⟩
        · by_cases hjk : j = k
          · rw [← hjk]
            exact un
          · rw [getD_set_ne true hjk] at hun
            exact hun
        · have := hb.2.2
          rwa [Array.setIfInBounds_comm _ _ hji]
end
section
variable {P : Program} {md : Region.Mode} {l : List Oper} {Q : Exit → Act → World → Prop} {S : World → Prop} {Z : List Nat}
/-- What every world of the condition yields, and all of Z wait for, is taken first. -/
theorem end_take {i : Nat} {oi : Oper} {rest : List Oper} {v : Value} {f : Nat} {done : Array Bool} {a : Act} {w : World} (hd : l.drop i = oi :: rest) (hz : (endWaits md l.toArray Z i && !Z.contains i && endClosed md l.toArray done) = true)
    (hs : Region.noSelect l.toArray = true) (hf : Region.free md l.toArray done i = true) (hr : (Region.ready md l.toArray done).contains i = true)
    (hQ : ∀ c a w, Q (.panic c) (a.put oi.dst v) w → Q (.panic c) a w) (hy : YieldsIf P l.toArray S oi v a) (hS : S w)
    (h : EndAny P md l.toArray Q S Z f (done.setIfInBounds i true) (a.put oi.dst v) w) : EndAny P md l.toArray Q S Z (f + 1) done a w := by
  have hi : l.toArray[i]? = some oi := by rw [List.getElem?_toArray]; exact get_of_drop hd
  rw [Bool.and_eq_true, Bool.and_eq_true, Bool.not_eq_true'] at hz
  exact EndAny.first (T := S) hi (fun hm => by have := hz.1.2; simp [hm] at this) (.inr ⟨hz.1.1, fun _ h => h⟩) (Region.noSelect_spec hs) hQ f done a w (endClosed_spec hz.2) (Region.free_spec hi hf) (by simpa using hr) hy hS (fun _ => hS) h
/-- What any world yields is taken first. -/
theorem end_pure {i : Nat} {oi : Oper} {rest : List Oper} {v : Value} {f : Nat} {done : Array Bool} {a : Act} {w : World} (hd : l.drop i = oi :: rest) (hz : (!Z.contains i && endClosed md l.toArray done) = true)
    (hs : Region.noSelect l.toArray = true) (hf : Region.free md l.toArray done i = true) (hr : (Region.ready md l.toArray done).contains i = true)
    (hQ : ∀ c a w, Q (.panic c) (a.put oi.dst v) w → Q (.panic c) a w) (hy : YieldsIf P l.toArray (fun _ => True) oi v a) (hS : endOpen Z done = true → S w)
    (h : EndAny P md l.toArray Q S Z f (done.setIfInBounds i true) (a.put oi.dst v) w) : EndAny P md l.toArray Q S Z (f + 1) done a w := by
  have hi : l.toArray[i]? = some oi := by rw [List.getElem?_toArray]; exact get_of_drop hd
  rw [Bool.and_eq_true, Bool.not_eq_true'] at hz
  exact EndAny.first (T := fun _ => True) hi (fun hm => by have := hz.1; simp [hm] at this) (.inl fun _ => trivial) (Region.noSelect_spec hs) hQ f done a w (endClosed_spec hz.2) (Region.free_spec hi hf) (by simpa using hr) hy trivial hS h
/-- The same, behind one of Z. -/
theorem end_late {i : Nat} {oi : Oper} {rest : List Oper} {v : Value} {f : Nat} {done : Array Bool} {a : Act} {w : World} (hd : l.drop i = oi :: rest) (hz : (!Z.contains i && endClosed md l.toArray done) = true) (ho : endOpen Z done = false)
    (hs : Region.noSelect l.toArray = true) (hf : Region.free md l.toArray done i = true) (hr : (Region.ready md l.toArray done).contains i = true)
    (hQ : ∀ c a w, Q (.panic c) (a.put oi.dst v) w → Q (.panic c) a w) (hy : YieldsIf P l.toArray (fun _ => True) oi v a)
    (h : EndAny P md l.toArray Q S Z f (done.setIfInBounds i true) (a.put oi.dst v) w) : EndAny P md l.toArray Q S Z (f + 1) done a w :=
  end_pure hd hz hs hf hr hQ hy (fun h => absurd h (by rw [ho]; decide)) h
/-- Operation i, alone, comes up: none of Z. -/
theorem end_next {f i : Nat} {done : Array Bool} {a : Act} {w : World} {o : Oper} {rest : List Oper} (hr : Region.ready md l.toArray done = [i]) (hd : l.drop i = o :: rest)
    (h : ∀ K' : Act → World → Prop, Shut (∀ a w, S w → (S w → EndAny P md l.toArray Q S Z f (done.setIfInBounds i true) a w) → K' a w) → if Region.wanted o (yielded l.toArray a.tmps) = true then Oper.wp P o a w K' Q else K' (a.put o.dst undef) w) :
    EndAny P md l.toArray Q S Z (f + 1) done a w := by
  refine ⟨fun h0 => (by rw [hr] at h0; cases h0), fun j hj => ?_⟩
  rw [hr] at hj
  obtain rfl := List.mem_singleton.1 hj
  exact wpOp_step (by rw [List.getElem?_toArray]; exact get_of_drop hd) (fun K' hK => h K' (fun a w hS hW => hK a w ⟨fun _ => hS, hW hS⟩))
/-- One of Z comes up, or one behind: nothing is asked of the world any more. -/
theorem end_last {f i : Nat} {done : Array Bool} {a : Act} {w : World} {o : Oper} {rest : List Oper} (hr : Region.ready md l.toArray done = [i]) (ho : endOpen Z (done.setIfInBounds i true) = false) (hd : l.drop i = o :: rest)
    (h : ∀ K' : Act → World → Prop, Shut (∀ a w, EndAny P md l.toArray Q S Z f (done.setIfInBounds i true) a w → K' a w) → if Region.wanted o (yielded l.toArray a.tmps) = true then Oper.wp P o a w K' Q else K' (a.put o.dst undef) w) :
    EndAny P md l.toArray Q S Z (f + 1) done a w := by
  refine ⟨fun h0 => (by rw [hr] at h0; cases h0), fun j hj => ?_⟩
  rw [hr] at hj
  obtain rfl := List.mem_singleton.1 hj
  exact wpOp_step (by rw [List.getElem?_toArray]; exact get_of_drop hd) (fun K' hK => h K' (fun a w hW => hK a w ⟨fun h => absurd h (by rw [ho]; decide), hW⟩))
theorem end_done {done : Array Bool} {a : Act} {w : World} (hr : Region.ready md l.toArray done = []) (h : Q .normal a w) : ∀ f, EndAny P md l.toArray Q S Z f done a w
  | 0 => ⟨hr, h⟩
  | _ + 1 => ⟨fun _ => h, fun j hj => by rw [hr] at hj; cases hj⟩
/-- The region's head. -/
theorem wp_region_end (S : World → Prop) (Z : List Nat) {id : Nat} {a : Act} {w : World} (hm : P.follows .mixedOrders = true) (hS : S w.drew) (h : S w.drew → EndAny P .any l.toArray Q S Z l.toArray.size (Array.replicate l.toArray.size false) a w.drew) :
    (Code.region id l.toArray true).wp P Q a w := wp_region_any hm (EndAny.any _ _ _ _ (h hS))
end
end Go.Proofs.YtdhcjaflbfpalaaGreatDoor.Sha

/-
  The statements' own tree takes a block: already there, no parent, full, or one node more. Besides the tree's box and its row nothing that was there turns. Conditions: the tree lies where the pointer says, nodes as the model has them, at most 4096, a header as the model has it.
-/
namespace Go.Proofs.YtdhcjaflbfpalaaGreatDoor.Sha
open Go Go.RowKit
theorem fill_mid (place : Nat → Option (Nat × Nat)) (i off : Nat) (v : Value) (vs A old C : List Value) (rest : List (Nat × Value)) (hv : v.cells = vs.toArray) (hp : place i = some (off, vs.length)) (hA : A.length = off) (ho : old.length = vs.length) :
    Instr.fill place (A ++ (old ++ C)).toArray ((i, v) :: rest) = Instr.fill place (A ++ (vs ++ C)).toArray rest := by
  rw [fill_part place i off v vs (A ++ (old ++ C)) rest hv hp (by rw [List.length_append, List.length_append]; omega)]
  congr 2
  rw [List.take_append_of_le_length (by omega), List.take_of_length_le (by omega), List.drop_append, List.drop_eq_nil_of_le (by omega), List.nil_append, hA, Nat.add_sub_cancel_left, ← ho, List.drop_left, List.append_assoc]
theorem TreeAt.own {w : World} {base a : Nat} {v : Value} {L : List TNd} (h : TreeAt w base a v L) : v.ownBlock ≠ some a := by
  rcases h.row.1.2 with ⟨rfl, _⟩ | ⟨g, cap, cur, rfl, _, hg, _⟩
  · exact fun e => (by cases e)
  · intro e
    have e' : g = a := Option.some.inj e
    rw [e', h.box] at hg
    cases hg
/-- What is amiss with a block for the tree. -/
def addE (L : List TNd) (h : THd) : Nat := if 0 ≤ findT L (hdId h) then 109 else if findT L h.prev < 0 then 110 else if 4096 ≤ L.length then 121 else 0
/-- Its node. -/
def nxT (L : List TNd) (h : THd) : TNd := ⟨hdId h, h, findT L h.prev, (L.getD (findT L h.prev).toNat ndZ).height + 1, ((L.getD (findT L h.prev).toNat ndZ).work + h.work) % 18446744073709551616, (L.getD (findT L h.prev).toNat ndZ).bad⟩
end Go.Proofs.YtdhcjaflbfpalaaGreatDoor.Sha

/-
  The statements' own tree of one block: new memory; nothing that was there turns. Condition: a header as the model has it.
-/
namespace Go.Proofs.YtdhcjaflbfpalaaGreatDoor.Sha
open Go Go.RowKit
/-- The start. -/
def stT (h : THd) : TNd := ⟨hdId h, h, -1, 0, h.work, false⟩
end Go.Proofs.YtdhcjaflbfpalaaGreatDoor.Sha

/-
  The tree of headers as a list of nodes: chains from the start up, ancestors by height, where two chains part; what the list keeps as it grows. No conditions.
-/
namespace Go.Proofs.YtdhcjaflbfpalaaGreatDoor.Sha
open Go Go.RowKit
/-- Each node's height is how many stand beneath it. -/
def Tall (L : List TNd) : Prop := ∀ (i : Nat) (x : TNd), L[i]? = some x → x.height + 1 = ((upL L (i : Int)).length : Int)
structure TrL (L : List TNd) : Prop where
  ok : ∀ x ∈ L, NdOk x
  down : Down L
  root : Rooted L
  tall : Tall L
  pos : 0 < L.length
  le : L.length ≤ 4096
  ids : L.Pairwise fun x y => x.id ≠ y.id
theorem parT_push {L : List TNd} {y : TNd} {k : Nat} (h : k < L.length) : parT (L ++ [y]) k = parT L k := by
  unfold parT
  rw [List.getElem?_append_left h]
theorem upF_push {L : List TNd} (hd : Down L) (y : TNd) : ∀ (f : Nat) (k : Int), k < (L.length : Int) → upF (L ++ [y]) f k = upF L f k
  | 0, _, _ => rfl
  | f + 1, k, h => by
    rw [upF, upF]
    by_cases h0 : k < 0
    · rw [if_pos h0, if_pos h0]
    · rw [if_neg h0, if_neg h0]
      have hk : k.toNat < L.length := by omega
      rw [parT_push hk]
      obtain ⟨x, hx⟩ : ∃ x, L[k.toNat]? = some x := ⟨_, List.getElem?_eq_getElem hk⟩
      have hp := hd _ _ hx
      have e : parT L k.toNat = x.parent := by unfold parT; rw [hx]
      rw [e, upF_push hd y f x.parent (by omega)]
theorem upL_push {L : List TNd} (hd : Down L) (y : TNd) {k : Int} (h : k < (L.length : Int)) : upL (L ++ [y]) k = upL L k := upF_push hd y _ k h
theorem getD_at {L : List TNd} {k : Nat} {x : TNd} (h : L[k]? = some x) : L.getD k ndZ = x := by rw [List.getD_eq_getElem?_getD, h]; rfl
theorem getD_int {L : List TNd} {k : Nat} {x : TNd} (h : L[k]? = some x) : L.getD (k : Int).toNat ndZ = x := getD_at (by simpa using h)
theorem TrL.parent {L : List TNd} (h : TrL L) {i : Nat} {x : TNd} (hx : L[i]? = some x) : (i = 0 ∧ x.parent = -1 ∧ x.height = 0) ∨ ∃ (p : Nat) (y : TNd), p < i ∧ x.parent = (p : Int) ∧ L[p]? = some y ∧ x.height = y.height + 1 := by
  have hp := h.down _ _ hx
  have ht := h.tall _ _ hx
  rw [upL_step h.down hx] at ht
  by_cases h0 : i = 0
  · refine Or.inl ⟨h0, by omega, ?_⟩
    rw [upL_neg (by omega)] at ht
    simp at ht
    omega
  · have hr := h.root _ _ hx (by omega)
    have hi : i < L.length := (List.getElem?_eq_some_iff.1 hx).1
    obtain ⟨p, e⟩ : ∃ p : Nat, x.parent = (p : Int) := ⟨x.parent.toNat, by omega⟩
    obtain ⟨y, hy⟩ : ∃ y, L[p]? = some y := ⟨_, List.getElem?_eq_getElem (by omega)⟩
    have hty := h.tall _ _ hy
    rw [e] at ht
    rw [List.length_cons] at ht
    exact Or.inr ⟨p, y, by omega, e, hy, by omega⟩
theorem TrL.height {L : List TNd} (h : TrL L) {i : Nat} {x : TNd} (hx : L[i]? = some x) : 0 ≤ x.height ∧ x.height ≤ (i : Int) := by
  have ht := h.tall _ _ hx
  have hi : i < L.length := (List.getElem?_eq_some_iff.1 hx).1
  have hb := upL_bound h.down i i (Nat.le_refl _) hi
  rw [upL_step h.down hx] at ht hb
  rw [List.length_cons] at ht hb
  omega
theorem stT_tr {h : THd} (hh : HdOk h) : TrL [stT h] := by
  have hd : Down [stT h] := fun i x hx => by
    cases i with
    | zero => cases hx; exact ⟨Int.le_refl _, by show (-1 : Int) < 0; omega⟩
    | succ i => cases hx
  have hw := hh.2.2.2.2.1
  refine ⟨fun x hx => ?_, hd, fun i x hx h0 => ?_, fun i x hx => ?_, Nat.le_refl _, by simp, List.pairwise_singleton _ _⟩
  · rcases List.mem_singleton.1 hx with rfl
    exact ⟨hdId_length h, hh, Int.le_refl _, by show (-1 : Int) ≤ 4096; omega, Int.le_refl _, by show (0 : Int) ≤ 4096; omega, by show h.work ≤ _; omega⟩
  · cases i with
    | zero => omega
    | succ i => cases hx
  · rw [upL_step hd hx]
    cases i with
    | zero => cases hx; rw [upL_neg (by show (-1 : Int) < 0; omega)]; rfl
    | succ i => cases hx
theorem TrL.push {L : List TNd} {hd : THd} (h : TrL L) (hh : HdOk hd) (ha : addE L hd = 0) : TrL (L ++ [nxT L hd]) := by
  unfold addE at ha
  split at ha
  · omega
  split at ha
  · omega
  split at ha
  · omega
  rename_i h1 h2 h3
  obtain ⟨n, x, hf, hx, -, -⟩ : ∃ (k : Nat) (x : TNd), findT L hd.prev = (k : Int) ∧ L[k]? = some x ∧ True ∧ True := by
    rcases findT_cases L hd.prev with ⟨e, _⟩ | ⟨k, x, e, hx, _⟩
    · omega
    · exact ⟨k, x, e, hx, trivial, trivial⟩
  have hn : n < L.length := (List.getElem?_eq_some_iff.1 hx).1
  have hno : ∀ y ∈ L, y.id ≠ hdId hd := by
    rcases findT_cases L (hdId hd) with ⟨_, e⟩ | ⟨k, x, e, _⟩
    · exact e
    · omega
  have eP : (nxT L hd).parent = (n : Int) := hf
  have eH : (nxT L hd).height = x.height + 1 := by unfold nxT; rw [hf]; simp only [getD_int hx]
  have hxh := h.height hx
  have hdn : Down (L ++ [nxT L hd]) := fun i y hy => by
    by_cases hi : i < L.length
    · rw [List.getElem?_append_left hi] at hy
      exact h.down _ _ hy
    · have e : i = L.length := by have := (List.getElem?_eq_some_iff.1 hy).1; simp at this; omega
      rw [e, List.getElem?_append_right (Nat.le_refl _), Nat.sub_self] at hy
      cases hy
      rw [eP]
      omega
  refine ⟨fun y hy => ?_, hdn, fun i y hy h0 => ?_, fun i y hy => ?_, by simp, by rw [List.length_append]; simp; omega, ?_⟩
  · rcases List.mem_append.1 hy with hy | hy
    · exact h.ok _ hy
    · rcases List.mem_singleton.1 hy with rfl
      refine ⟨hdId_length hd, hh, by rw [eP]; omega, by rw [eP]; omega, by rw [eH]; omega, by rw [eH]; omega, ?_⟩
      show (_ + _) % _ ≤ _
      omega
  · by_cases hi : i < L.length
    · rw [List.getElem?_append_left hi] at hy
      exact h.root _ _ hy h0
    · have e : i = L.length := by have := (List.getElem?_eq_some_iff.1 hy).1; simp at this; omega
      rw [e, List.getElem?_append_right (Nat.le_refl _), Nat.sub_self] at hy
      cases hy
      rw [eP]
      omega
  · by_cases hi : i < L.length
    · rw [List.getElem?_append_left hi] at hy
      rw [upL_push h.down _ (by omega)]
      exact h.tall _ _ hy
    · have e : i = L.length := by have := (List.getElem?_eq_some_iff.1 hy).1; simp at this; omega
      rw [upL_step hdn hy, List.length_cons]
      rw [e, List.getElem?_append_right (Nat.le_refl _), Nat.sub_self] at hy
      cases hy
      rw [eP, eH, upL_push h.down _ (by omega)]
      have := h.tall _ _ hx
      omega
  · rw [List.pairwise_append]
    exact ⟨h.ids, List.pairwise_singleton _ _, fun a ha b hb => by rcases List.mem_singleton.1 hb with rfl; exact hno a ha⟩
/-- The chain from the start up to a node. -/
def chainT (L : List TNd) (k : Int) : List Int := (upL L k).reverse
theorem chain_neg {L : List TNd} {k : Int} (h : k < 0) : chainT L k = [] := by unfold chainT; rw [upL_neg h]; rfl
theorem chain_step {L : List TNd} (hd : Down L) {k : Nat} {x : TNd} (hx : L[k]? = some x) : chainT L (k : Int) = chainT L x.parent ++ [(k : Int)] := by
  unfold chainT
  rw [upL_step hd hx, List.reverse_cons]
theorem chain_length {L : List TNd} (h : TrL L) {k : Nat} {x : TNd} (hx : L[k]? = some x) : ((chainT L (k : Int)).length : Int) = x.height + 1 := by
  unfold chainT
  rw [List.length_reverse]
  exact (h.tall _ _ hx).symm
theorem chain_par {L : List TNd} (h : TrL L) {k : Nat} {x : TNd} (hx : L[k]? = some x) : ((chainT L x.parent).length : Int) = x.height := by
  have := chain_length h hx
  rw [chain_step h.down hx, List.length_append, List.length_singleton] at this
  omega
/-- The one of a height on the way down. -/
def ancT (L : List TNd) (k h : Int) : Option Int := if h < 0 then none else (chainT L k)[h.toNat]?
theorem anc_self {L : List TNd} (h : TrL L) {k : Nat} {x : TNd} (hx : L[k]? = some x) : ancT L (k : Int) x.height = some (k : Int) := by
  unfold ancT
  have h0 := h.height hx
  rw [if_neg (by omega), chain_step h.down hx]
  have := chain_par h hx
  rw [List.getElem?_append_right (by omega), show x.height.toNat - (chainT L x.parent).length = 0 by omega]
  rfl
theorem anc_step {L : List TNd} (h : TrL L) {k : Nat} {x : TNd} (hx : L[k]? = some x) {t : Int} (ht : t ≠ x.height) : ancT L (k : Int) t = ancT L x.parent t := by
  unfold ancT
  split
  · rfl
  have := chain_par h hx
  rw [chain_step h.down hx]
  by_cases hl : t < x.height
  · rw [List.getElem?_append_left (by omega)]
  · rw [List.getElem?_append_right (by omega), List.getElem?_eq_none (l := [(k : Int)]) (by simp; omega), List.getElem?_eq_none (by omega)]
theorem anc_is {L : List TNd} (h : TrL L) : ∀ (n k : Nat) (x : TNd) (t : Int), k ≤ n → L[k]? = some x → 0 ≤ t → t ≤ x.height → ∃ (j : Nat) (y : TNd), ancT L (k : Int) t = some (j : Int) ∧ j ≤ k ∧ L[j]? = some y ∧ y.height = t
  | n, k, x, t, hk, hx, h0, h1 => by
    by_cases e : t = x.height
    · exact ⟨k, x, by rw [e]; exact anc_self h hx, Nat.le_refl _, hx, e.symm⟩
    · rw [anc_step h hx e]
      rcases h.parent hx with ⟨_, _, h3⟩ | ⟨p, y, h2, h3, h4, h5⟩
      · omega
      · cases n with
        | zero => omega
        | succ n =>
          obtain ⟨j, z, q1, q2, q3, q4⟩ := anc_is h n p y t (by omega) h4 h0 (by omega)
          exact ⟨j, z, by rw [h3]; exact q1, by omega, q3, q4⟩
/-- Up to an ancestor a chain is that ancestor's. -/
theorem anc_chain {L : List TNd} (h : TrL L) : ∀ (n k : Nat) (x : TNd) (j t : Nat), k ≤ n → L[k]? = some x → (chainT L (k : Int))[t]? = some (j : Int) → (chainT L (k : Int)).take (t + 1) = chainT L (j : Int)
  | n, k, x, j, t, hk, hx, ha => by
    have hl := chain_par h hx
    have hc := chain_step h.down hx
    rw [hc] at ha ⊢
    by_cases e : t < (chainT L x.parent).length
    · rw [List.getElem?_append_left e] at ha
      rw [List.take_append_of_le_length (by omega)]
      rcases h.parent hx with ⟨_, h2, _⟩ | ⟨p, y, h2, h3, h4, h5⟩
      · rw [chain_neg (by omega)] at e
        simp at e
      · rw [h3] at ha ⊢
        cases n with
        | zero => omega
        | succ n => exact anc_chain h n p y j t (by omega) h4 ha
    · have e2 : t = (chainT L x.parent).length := by
        have := (List.getElem?_eq_some_iff.1 ha).1
        simp at this
        omega
      rw [e2, List.getElem?_append_right (Nat.le_refl _), Nat.sub_self] at ha
      have e3 : (k : Int) = (j : Int) := by simpa using ha
      rw [← e3, hc, List.take_of_length_le (by simp; omega)]
/-- Who hangs on a node, in order. -/
def kidsI (L : List TNd) (i : Nat) : List Nat := (List.range L.length).filter fun j => decide (parT L j = (i : Int))
theorem kidsI_push {L : List TNd} {y : TNd} {i : Nat} : kidsI (L ++ [y]) i = kidsI L i ++ (if y.parent = (i : Int) then [L.length] else []) := by
  unfold kidsI
  have e : parT (L ++ [y]) L.length = y.parent := by unfold parT; rw [List.getElem?_append_right (Nat.le_refl _), Nat.sub_self]; rfl
  rw [List.length_append, List.length_singleton, List.range_succ, List.filter_append]
  congr 1
  · refine List.filter_congr fun j hj => ?_
    rw [parT_push (List.mem_range.1 hj)]
  · by_cases h : y.parent = (i : Int)
    · rw [if_pos h]; simp [List.filter_cons, e, h]
    · rw [if_neg h]; simp [List.filter_cons, e, h]
theorem kidsI_lt {L : List TNd} {i j : Nat} (h : j ∈ kidsI L i) : j < L.length := List.mem_range.1 (List.mem_filter.1 h).1
theorem kidsI_par {L : List TNd} {i j : Nat} (h : j ∈ kidsI L i) : parT L j = (i : Int) := by simpa using (List.mem_filter.1 h).2
theorem kidsI_last {L : List TNd} (hd : Down L) {y : TNd} (hn : y.parent < (L.length : Int)) : kidsI (L ++ [y]) L.length = [] := by
  rw [kidsI_push, if_neg (by omega), List.append_nil]
  unfold kidsI
  rw [List.filter_eq_nil_iff]
  intro j hj
  have hj := List.mem_range.1 hj
  obtain ⟨x, hx⟩ : ∃ x, L[j]? = some x := ⟨_, List.getElem?_eq_getElem hj⟩
  have := hd _ _ hx
  unfold parT
  rw [hx]
  simp
  omega
end Go.Proofs.YtdhcjaflbfpalaaGreatDoor.Sha
