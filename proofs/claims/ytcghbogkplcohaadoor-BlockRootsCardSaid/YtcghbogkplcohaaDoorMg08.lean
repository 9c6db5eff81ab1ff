/-
  Texts of this proof joined into one file: TxBaseW, TxCheckW, TxLits, TxFirst, TxNew, TxPieces, TxBytesW, TxBasesWalk. What each holds, and under which conditions, its own first sentence tells.
-/
import Derived.Test.YtcghbogkplcohaaDoorMg05
import Derived.Test.YtcghbogkplcohaaDoorMg07
import Derived.Test.YtcghbogkplcohaaDoorMg04
import Derived.Test.YtcghbogkplcohaaDoorMg06
import Derived.Test.YtcghbogkplcohaaDoorMg01
/-
  Package tx tells whether a transaction makes coins, and whether inputs of no place are there only where they may be. Nothing that was there turns. Condition: a transaction of a few inputs and outputs that lies in memory.
-/
namespace Go.Proofs.YtcghbogkplcohaaDoor.Sha
open Go Go.RowKit
theorem base_of {t : TTx} : (∃ x, t.ins = [x] ∧ baseB t = isNullIn x) ∨ (t.ins.length ≠ 1 ∧ baseB t = false) := by
  unfold baseB
  rcases h : t.ins with _ | ⟨x, _ | ⟨y, r⟩⟩
  · exact .inr ⟨by simp, rfl⟩
  · exact .inl ⟨x, rfl, rfl⟩
  · exact .inr ⟨by simp, rfl⟩
set_option maxHeartbeats 1000000 in
set_option maxRecDepth 100000 in
theorem base_all : BaseC := by
  intro t v w b hb h1 hs
  have HBb := Lib.hid hb
  clear hb
  have h1' := h1
  obtain ⟨ht0, iv, ov, rfl, hti, hto⟩ := h1
  obtain ⟨si, ci, rfl, hci, hti⟩ := hti
  obtain ⟨so, co, rfl, hco, hto⟩ := hto
  have HTI := Lib.hid hti
  have HTO := Lib.hid hto
  obtain ⟨ni, hn1⟩ : ∃ ni, ni = t.ins.length := ⟨_, rfl⟩
  obtain ⟨no, hn2⟩ : ∃ no, no = t.outs.length := ⟨_, rfl⟩
  obtain ⟨vt, hvt⟩ : ∃ vt, vt = t.ver := ⟨_, rfl⟩
  obtain ⟨tt, htt⟩ : ∃ tt, tt = t.time := ⟨_, rfl⟩
  have NI := Lib.hid hn1
  have NO := Lib.hid hn2
  have VT := Lib.hid hvt
  have TT := Lib.hid htt
  have TS := Lib.hid hs
  have bni : ni ≤ 1000 := by rw [hn1]; exact hs.2.1
  have bno : no ≤ 1000 := by rw [hn2]; exact hs.2.2.1
  simp only [txL, ← hn1, ← hn2, ← hvt, ← htt] at h1' ⊢
  have H1 := Lib.hid h1'
  clear hn1 hn2 hci hco hvt htt ht0 hti hto h1' hs
  
  go_enter Tryd.func35, Tryd.ntmps35
  go_upto_region 1 with fail
  have F := Lib.hid (heap_alloc_new w (.cells [nV vt, .slice si ni ci, .slice so no co, nV tt].toArray 32 (0, 0)))
  have B0 := Lib.hid ((Below.refl w.heap.size w).alloc (Nat.le_refl _) (.cells [nV vt, .slice si ni ci, .slice so no co, nV tt].toArray 32 (0, 0)))
  generalize hw1 : World.alloc _ _ = w1
  have e1 : w.alloc (.cells [nV vt, .slice si ni ci, .slice so no co, nV tt].toArray 32 (0, 0)) = w1 := hw1
  rw [e1] at F B0
  clear hw1 e1
  have BOX : Hid (∀ w', Below w1.heap.size w1 w' → ∀ j v, [nV vt, .slice si ni ci, .slice so no co, nV tt][j]? = some v → w'.cell? ⟨w.heap.size, j, none⟩ = some v) := fun w' hw' j v hj => by
    rw [cell_of_row _ _ _ _ _ _ (row_below F.out hw'), List.getElem?_toArray]
    exact hj
  have c1 : w1.cell? ⟨w.heap.size, 1, none⟩ = some (.slice si ni ci) := BOX.out w1 (Below.refl _ _) 1 _ rfl
  rcases base_of (t := t) with ⟨x, hx, hbx⟩ | ⟨hne, hbx⟩
  · have hn1 : ni = 1 := by rw [NI.out, hx]; rfl
    obtain ⟨b1, o1, hs1, he1⟩ := HTI.out (by rw [hx]; exact Nat.zero_lt_one)
    obtain ⟨hx1, kx, hkx2, hr1⟩ := he1 0 x (by rw [hx]; rfl)
    have RP := Lib.hid (in_pt (range_below hr1 B0.out))
    have LP : Hid ((ptL x.h x.n).length = 33) := by show _ = _; simp [ptL, hx1.1]
    have XOK := Lib.hid hx1
    have HX : Hid (b = (decide (x.h = List.replicate 32 0) && decide (x.n = 4294967295))) := by show _ = _; rw [HBb.out, hbx]; rfl
    clear hx hbx he1 hx1 hkx2 hr1
    subst hs1
    have NI2 := Lib.hid hn1
    have e1 : ((ni : Int) == 1) = true := by rw [beq_iff_eq]; omega
    have q0 : (0 : Int) < (ni : Int) := by omega
    clear hn1
    go_wp2_with ((with_reducible show wpList _ _ _ _ _ _); refine wpList_load_midG 39 (.tmp 11) rfl b1 (o1 + 0 * 35) (by simp [Act.eval]) (ptL x.h x.n) _ RP.out Tryd.underlying39 rfl (by rw [LP.out]; kernel_rfl) (by rfl) ?_; go_frame)
    refine (isnull_any x.h x.n XOK.out.1 b HX.out _).mono ?_
    rintro e w3 ⟨rfl, hb3⟩
    have B3 := Lib.hid (B0.out.trans (hb3.mono B0.out.size))
    clear hb3
    go_wp2_with fail
    go_ret
    exact ⟨rfl, B3.out⟩
  · have e1 : ((ni : Int) == 1) = false := by rw [beq_eq_false_iff_ne]; rw [← NI.out] at hne; omega
    have HX : Hid (b = false) := by show _ = _; rw [HBb.out, hbx]
    clear hne hbx
    obtain rfl : b = false := HX.out
    go_wp2_with fail
    go_ret
    exact ⟨rfl, B0.out⟩
def BrInv (n : Nat) (t : TTx) (w1 : World) (i : Value) (wr : World) : Prop := ∃ k : Nat, k ≤ n ∧ i = .int .i64 k ∧ (∀ (j : Nat) x, j < k → t.ins[j]? = some x → isNullIn x = false) ∧ Below w1.heap.size w1 wr
/-- What basesRight is to answer. -/
def rightB (t : TTx) : Bool := if baseB t then !(t.ins.any fun x => decide (x.key.length < 4)) else !(t.ins.any isNullIn)
set_option maxHeartbeats 1000000 in
set_option maxRecDepth 100000 in
theorem bases_any (t : TTx) (v : Value) (w : World) (h1 : TxAt w v t) (hs : TxSmall t) (b : Bool) (hb : b = rightB t) :
    Calls Tryd.prog 51 #[v] w fun e w' => e = .returned (.bool b) ∧ Below w.heap.size w w' := by
  have HBb := Lib.hid hb
  clear hb
  have h1' := h1
  obtain ⟨ht0, iv, ov, rfl, hti, hto⟩ := h1
  obtain ⟨si, ci, rfl, hci, hti⟩ := hti
  obtain ⟨so, co, rfl, hco, hto⟩ := hto
  have HTI := Lib.hid hti
  have HTO := Lib.hid hto
  obtain ⟨ni, hn1⟩ : ∃ ni, ni = t.ins.length := ⟨_, rfl⟩
  obtain ⟨no, hn2⟩ : ∃ no, no = t.outs.length := ⟨_, rfl⟩
  obtain ⟨vt, hvt⟩ : ∃ vt, vt = t.ver := ⟨_, rfl⟩
  obtain ⟨tt, htt⟩ : ∃ tt, tt = t.time := ⟨_, rfl⟩
  have NI := Lib.hid hn1
  have NO := Lib.hid hn2
  have VT := Lib.hid hvt
  have TT := Lib.hid htt
  have TS := Lib.hid hs
  have bni : ni ≤ 1000 := by rw [hn1]; exact hs.2.1
  have bno : no ≤ 1000 := by rw [hn2]; exact hs.2.2.1
  simp only [txL, ← hn1, ← hn2, ← hvt, ← htt] at h1' ⊢
  have H1 := Lib.hid h1'
  clear hn1 hn2 hci hco hvt htt ht0 hti hto h1' hs
  
  go_enter Tryd.func51, Tryd.ntmps51
  go_upto_region 1 with fail
  have F := Lib.hid (heap_alloc_new w (.cells [nV vt, .slice si ni ci, .slice so no co, nV tt].toArray 32 (0, 0)))
  have B0 := Lib.hid ((Below.refl w.heap.size w).alloc (Nat.le_refl _) (.cells [nV vt, .slice si ni ci, .slice so no co, nV tt].toArray 32 (0, 0)))
  generalize hw1 : World.alloc _ _ = w1
  have e1 : w.alloc (.cells [nV vt, .slice si ni ci, .slice so no co, nV tt].toArray 32 (0, 0)) = w1 := hw1
  rw [e1] at F B0
  clear hw1 e1
  have BOX : Hid (∀ w', Below w1.heap.size w1 w' → ∀ j v, [nV vt, .slice si ni ci, .slice so no co, nV tt][j]? = some v → w'.cell? ⟨w.heap.size, j, none⟩ = some v) := fun w' hw' j v hj => by
    rw [cell_of_row _ _ _ _ _ _ (row_below F.out hw'), List.getElem?_toArray]
    exact hj
  obtain ⟨bb, hbb⟩ : ∃ bb, bb = baseB t := ⟨_, rfl⟩
  have BB := Lib.hid hbb
  clear hbb
  go_wp2_with ((with_reducible show wpList _ _ _ _ _ _); refine wpList_load_row rfl 32 (.tmp 1) rfl w.heap.size rfl 32 [nV vt, .slice si ni ci, .slice so no co, nV tt].toArray (0, 0) _ F.out Tryd.underlying32 rfl (by kernel_rfl) ?_; go_frame)
  refine (base_all t _ w1 bb BB.out (H1.out.below B0.out) TS.out).mono ?_
  rintro e w2 ⟨rfl, hb2⟩
  have B2 := Lib.hid hb2
  clear hb2
  have c1 : w2.cell? ⟨w.heap.size, 1, none⟩ = some (.slice si ni ci) := BOX.out w2 B2.out 1 _ rfl
  cases bb
  rotate_left
  · rcases base_of (t := t) with ⟨x, hx, hbx⟩ | ⟨hne, hbx⟩
    rotate_left
    · rw [← BB.out] at hbx
      cases hbx
    obtain ⟨b1, o1, hs1, he1⟩ := HTI.out (by rw [hx]; exact Nat.zero_lt_one)
    obtain ⟨hx1, kx, hkx2, hr1⟩ := he1 0 x (by rw [hx]; rfl)
    obtain ⟨sx, cx, hkv⟩ := hkx2.2
    obtain ⟨kl, hkl⟩ : ∃ kl, kl = x.key.length := ⟨_, rfl⟩
    rw [← hkl] at hkv
    subst hkv
    have c2 : w2.cell? ⟨b1, o1 + 33, none⟩ = some (.slice sx kl cx) := by
      have := in_key hx1.1 (range_below (range_below hr1 B0.out) B2.out)
      simpa using this
    have hn1 : ni = 1 := by rw [NI.out, hx]; rfl
    have HX : Hid (b = !decide (kl < 4)) := by show _ = _; rw [HBb.out, rightB, ← BB.out, if_pos rfl, hx, hkl]; simp
    have q0 : (0 : Int) < (ni : Int) := by omega
    clear hx hbx he1 hx1 hkx2 hr1 hkl hn1
    subst hs1
    by_cases h4 : 4 ≤ kl
    · have e1 : (4 : Int) ≤ (kl : Int) := by omega
      obtain rfl : b = true := by rw [HX.out, decide_eq_false (by omega)]; rfl
      clear h4
      go_wp2_with fail
      go_ret
      exact ⟨rfl, B0.out.trans (B2.out.mono B0.out.size)⟩
    · have e1 : ¬ (4 : Int) ≤ (kl : Int) := by omega
      have e2 : decide ((4 : Int) ≤ (kl : Int)) = false := decide_eq_false e1
      obtain rfl : b = false := by rw [HX.out, decide_eq_true (by omega)]; rfl
      clear h4
      go_wp2_with fail
      go_ret
      exact ⟨rfl, B0.out.trans (B2.out.mono B0.out.size)⟩
  · have HX : Hid (b = !(t.ins.any isNullIn)) := by show _ = _; rw [HBb.out, rightB, ← BB.out]; rfl
    go_wp2_with fail
    clear c1
    go_loopw [17] (fun i wr => BrInv ni t w1 i wr) (fun i _ => ni - (intOf i).toNat)
    case atStart => exact ⟨0, by omega, rfl, fun j x hj => by omega, B2.out⟩
    case round =>
      clear B2
      obtain ⟨k, hk, rfl, hp, B⟩ := hrel
      have B := Lib.hid B
      have HP := Lib.hid hp
      clear hp
      by_cases hlt : k < ni
      · have hkx : k < t.ins.length := by have := NI.out; omega
        obtain ⟨b1, o1, hs1, he1⟩ := HTI.out (by omega)
        have g1 := he1 k _ (List.getElem?_eq_getElem hkx)
        obtain ⟨x, hx⟩ : ∃ x, x = t.ins[k] := ⟨_, rfl⟩
        rw [← hx] at g1
        have hgx : t.ins[k]? = some x := by rw [hx]; exact List.getElem?_eq_getElem _
        obtain ⟨hx1, kx, hkx2, hr1⟩ := g1
        obtain ⟨sx, cx, hkv⟩ := hkx2.2
        obtain ⟨kl, hkl⟩ : ∃ kl, kl = x.key.length := ⟨_, rfl⟩
        rw [← hkl] at hkv
        subst hkv
        have p0 : 0 ≤ (k : Int) := by omega
        have q0 : (k : Int) < (ni : Int) := by omega
        have bkl : kl ≤ 100000 := by rw [hkl]; exact TS.out.2.2.2 x (List.mem_of_getElem? hgx)
        have R1 := Lib.hid (range_below (range_below hr1 B0.out) B.out)
        have KW := Lib.hid ((hkx2.1.below B0.out).below B.out)
        have GX := Lib.hid hgx
        have KL := Lib.hid hkl
        have XOK := Lib.hid hx1
        have ONE := Lib.hid (in_one x (.slice sx kl cx) rfl)
        have LX : Hid ((inL x (.slice sx kl cx)).length = 35) := inL_length x _ hx1.1
        have LX' : Hid ((inL x (.slice sx kl cx)).toArray.size = 35) := by show _ = _; rw [List.size_toArray]; exact LX.out
        subst hs1
        clear hx hgx he1 hx1 hkx2 hr1 hkl hkx
        obtain ⟨g5, hg5⟩ : ∃ g5, g5 = wr.heap.size := ⟨_, rfl⟩
        obtain ⟨_, f2, f3, f4⟩ := fill_setup (Below.refl wr.heap.size wr) (List.replicate 32 (bV 0) ++ [nV 0, .slice none 0 0, nV 0]).toArray (inL x (.slice sx kl cx)).toArray 42
        go_upto_region 6 with ((with_reducible show wpList _ _ _ _ _ _); first | (refine wpList_load_mid rfl 42 (.tmp 19) rfl b1 (o1 + k * 35) rfl (inL x (.slice sx kl cx)) _ R1.out Tryd.underlying42 rfl (by rw [LX.out]; kernel_rfl) ?_; go_frame) | (refine wpList_store_row rfl 42 (.tmp 4) (.tmp 20) rfl wr.heap.size (inL x (.slice sx kl cx)).toArray rfl rfl 42 _ (heap_alloc_new _ _) (by rw [LX'.out]; kernel_rfl) (by rw [LX'.out]; rfl) ONE.out ?_; go_frame))
        rw [← hg5] at f2 f3 f4 ⊢
        generalize hw5 : World.setRow _ _ _ = w5
        have e5 : World.setRow (wr.alloc (.cells (List.replicate 32 (bV 0) ++ [nV 0, .slice none 0 0, nV 0]).toArray 42)) g5 (inL x (.slice sx kl cx)).toArray = w5 := hw5
        rw [e5] at f2 f4
        rw [hg5] at f4
        have F5 := Lib.hid f2
        have N5 := Lib.hid f4
        have B5 := Lib.hid (B.out.trans (f4.mono B.out.size))
        have G5 := Lib.hid hg5
        have IN5 : Hid (∀ (j : Nat) (u : Value), (inL x (.slice sx kl cx))[j]? = some u → w5.cell? ⟨g5, j, none⟩ = some u) := fun j u hj => by
          rw [cell_of_row _ _ _ _ _ _ F5.out, List.getElem?_toArray]
          exact hj
        have X33 : Hid ((inL x (.slice sx kl cx))[33]? = some (.slice sx kl cx)) := by show _ = _; rw [inL, List.getElem?_append_right (by simp [ptL, XOK.out.1])]; simp [ptL, XOK.out.1]
        clear f2 f3 f4 hg5 hw5 e5
        have LP : Hid ((ptL x.h x.n).length = 33) := by show _ = _; simp [ptL, XOK.out.1]
        have RP := Lib.hid (in_pt (range_of_box F5.out))
        obtain ⟨nn, hnn⟩ : ∃ nn, nn = isNullIn x := ⟨_, rfl⟩
        have NN := Lib.hid hnn
        clear hnn
        go_wp2_with ((with_reducible show wpList _ _ _ _ _ _); refine wpList_load_mid rfl 39 (.tmp 21) rfl g5 0 rfl (ptL x.h x.n) _ RP.out Tryd.underlying39 rfl (by rw [LP.out]; kernel_rfl) ?_; go_frame)
        refine (isnull_any x.h x.n XOK.out.1 nn NN.out _).mono ?_
        rintro e w6 ⟨rfl, hb6⟩
        have B6 := Lib.hid (B5.out.trans (hb6.mono B5.out.size))
        clear hb6
        cases nn
        · go_wp2_with fail
          go_roundw
          case rel =>
            refine ⟨k + 1, by omega, by go_num, fun j y hj hy => ?_, B6.out⟩
            by_cases hj2 : j < k
            · exact HP.out j y hj2 hy
            · obtain rfl : j = k := by omega
              have := Option.some.inj (GX.out.symm.trans hy)
              subst this
              exact NN.out.symm
          case measure => simp [intOf]; omega
        · obtain rfl : b = false := by
            rw [HX.out]
            have : t.ins.any isNullIn = true := List.any_eq_true.2 ⟨x, List.mem_of_getElem? GX.out, NN.out.symm⟩
            rw [this]
            rfl
          go_wp2_with fail
          go_ret
          exact ⟨rfl, B0.out.trans (B6.out.mono B0.out.size)⟩
      · have hkn : k = ni := by omega
        have hge : ¬ (k : Int) < (ni : Int) := by omega
        obtain rfl : b = true := by
          rw [HX.out]
          have : t.ins.any isNullIn = false := by
            rw [List.any_eq_false]
            intro x hx
            obtain ⟨j, hj⟩ := List.getElem?_of_mem hx
            rw [HP.out j x (by have := (List.getElem?_eq_some_iff.1 hj).1; have := NI.out; omega) hj]
            simp
          rw [this]
          rfl
        clear hkn
        go_wp2_with fail
        go_ret
        exact ⟨rfl, B0.out.trans (B.out.mono B0.out.size)⟩
end Go.Proofs.YtcghbogkplcohaaDoor.Sha

/-
  Package tx tells what is amiss with a transaction, in the order of the chapter. Nothing that was there turns. Conditions: a transaction of a few inputs and outputs that lies in memory; the errors are there.
-/
namespace Go.Proofs.YtcghbogkplcohaaDoor.Sha
open Go Go.RowKit
theorem chkC_many {t : TTx} (h : t.ins.length = 0 ∨ 50 < t.ins.length ∨ t.outs.length = 0 ∨ 50 < t.outs.length) : checkC t = 4 := by
  unfold checkC checkN
  rw [if_pos h]
theorem chkC_rest {t : TTx} (h : ¬ (t.ins.length = 0 ∨ 50 < t.ins.length ∨ t.outs.length = 0 ∨ 50 < t.outs.length)) : checkC t =
    if 4000 < (txB t).length then 3 else if 80 < mostKey t.ins then 14 else if sumIs (t.outs.map (·.val)) = false then 5 else if twiceB t.ins = true then 6 else if rightB t = true then 0 else 7 := by
  unfold checkC checkN rightB
  rw [if_neg h, mostKey_over]
  simp only [decide_eq_true_eq]
  split
  · rfl
  split
  · rfl
  split
  · rfl
  split
  · rfl
  by_cases hb : baseB t = true
  · rw [if_pos hb, if_pos hb]
    cases h4 : t.ins.any fun x => decide (x.key.length < 4) <;> rfl
  · rw [if_neg hb, if_neg hb]
    cases h4 : t.ins.any isNullIn <;> rfl
set_option maxHeartbeats 4000000 in
set_option maxRecDepth 100000 in
theorem check_all (E : Nat → Addr) : CheckC E := by
  intro t v w c hc hE h1 hs
  have HC := Lib.hid hc
  have HE := Lib.hid hE
  clear hc hE
  have h1' := h1
  obtain ⟨ht0, iv, ov, rfl, hti, hto⟩ := h1
  obtain ⟨si, ci, rfl, hci, hti⟩ := hti
  obtain ⟨so, co, rfl, hco, hto⟩ := hto
  have HTI := Lib.hid hti
  have HTO := Lib.hid hto
  obtain ⟨ni, hn1⟩ : ∃ ni, ni = t.ins.length := ⟨_, rfl⟩
  obtain ⟨no, hn2⟩ : ∃ no, no = t.outs.length := ⟨_, rfl⟩
  obtain ⟨vt, hvt⟩ : ∃ vt, vt = t.ver := ⟨_, rfl⟩
  obtain ⟨tt, htt⟩ : ∃ tt, tt = t.time := ⟨_, rfl⟩
  have NI := Lib.hid hn1
  have NO := Lib.hid hn2
  have VT := Lib.hid hvt
  have TT := Lib.hid htt
  have TS := Lib.hid hs
  have bni : ni ≤ 1000 := by rw [hn1]; exact hs.2.1
  have bno : no ≤ 1000 := by rw [hn2]; exact hs.2.2.1
  simp only [txL, ← hn1, ← hn2, ← hvt, ← htt] at h1' ⊢
  have H1 := Lib.hid h1'
  clear hn1 hn2 hci hco hvt htt ht0 hti hto h1' hs
  
  go_enter Tryd.func34, Tryd.ntmps34
  go_upto_region 1 with fail
  have F := Lib.hid (heap_alloc_new w (.cells [nV vt, .slice si ni ci, .slice so no co, nV tt].toArray 32 (0, 0)))
  have B0 := Lib.hid ((Below.refl w.heap.size w).alloc (Nat.le_refl _) (.cells [nV vt, .slice si ni ci, .slice so no co, nV tt].toArray 32 (0, 0)))
  generalize hw1 : World.alloc _ _ = w1
  have e1 : w.alloc (.cells [nV vt, .slice si ni ci, .slice so no co, nV tt].toArray 32 (0, 0)) = w1 := hw1
  rw [e1] at F B0
  clear hw1 e1
  have BOX : Hid (∀ w', Below w1.heap.size w1 w' → ∀ j v, [nV vt, .slice si ni ci, .slice so no co, nV tt][j]? = some v → w'.cell? ⟨w.heap.size, j, none⟩ = some v) := fun w' hw' j v hj => by
    rw [cell_of_row _ _ _ _ _ _ (row_below F.out hw'), List.getElem?_toArray]
    exact hj
  have FB := F
  obtain ⟨b1, hb1⟩ : ∃ b, b = (decide (1 ≤ ni) && decide (ni ≤ 50)) := ⟨_, rfl⟩
  obtain ⟨b2, hb2⟩ : ∃ b, b = (decide (1 ≤ no) && decide (no ≤ 50)) := ⟨_, rfl⟩
  have HB1 := Lib.hid hb1
  have HB2 := Lib.hid hb2
  clear hb1 hb2
  have c1 : w1.cell? ⟨w.heap.size, 1, none⟩ = some (.slice si ni ci) := BOX.out w1 (Below.refl _ _) 1 _ rfl
  have c2 : w1.cell? ⟨w.heap.size, 2, none⟩ = some (.slice so no co) := BOX.out w1 (Below.refl _ _) 2 _ rfl
  have BB := Lib.hid (Below.refl w1.heap.size w1)
  go_wp2_with fail
  refine (between_any ni b1 HB1.out w1 bni).mono ?_
  rintro e w' ⟨rfl, rfl⟩
  cases b1
  · have hni : ¬ (1 ≤ ni ∧ ni ≤ 50) := fun h => by have := HB1.out; rw [decide_eq_true h.1, decide_eq_true h.2] at this; cases this
    have HNI := Lib.hid hni
    clear hni
    have q : w1.cell? ⟨0, 0, none⟩ = some (.iface 127 (.pointer (some (E 3)))) := ((HE.out.below B0.out).below BB.out) 3 (by omega)
    have HQ : Hid (c = 4) := by
      show _ = _
      rw [HC.out]; exact chkC_many (by have := HNI.out; have := NI.out; omega)
    go_wp2_with fail
    go_ret
    exact ⟨by rw [HQ.out]; rfl, B0.out.trans (BB.out.mono B0.out.size)⟩
  go_wp2_with fail
  refine (between_any no b2 HB2.out _ bno).mono ?_
  rintro e w' ⟨rfl, rfl⟩
  cases b2
  · have hni : ¬ (1 ≤ no ∧ no ≤ 50) := fun h => by have := HB2.out; rw [decide_eq_true h.1, decide_eq_true h.2] at this; cases this
    have HNI := Lib.hid hni
    clear hni
    have q : w1.cell? ⟨0, 0, none⟩ = some (.iface 127 (.pointer (some (E 3)))) := ((HE.out.below B0.out).below BB.out) 3 (by omega)
    have HQ : Hid (c = 4) := by
      show _ = _
      rw [HC.out]; exact chkC_many (by have := HNI.out; have := NO.out; omega)
    go_wp2_with fail
    go_ret
    exact ⟨by rw [HQ.out]; rfl, B0.out.trans (BB.out.mono B0.out.size)⟩
  have HC2 : Hid (c = if 4000 < (txB t).length then 3 else if 80 < mostKey t.ins then 14 else if sumIs (t.outs.map (·.val)) = false then 5 else if twiceB t.ins = true then 6 else if rightB t = true then 0 else 7) := by
    show _ = _
    rw [HC.out]
    refine chkC_rest ?_
    have h1 := HB1.out
    have h2 := HB2.out
    simp only [Bool.true_eq, Bool.and_eq_true, decide_eq_true_eq] at h1 h2
    have := NI.out
    have := NO.out
    omega
  clear c1 c2 HB1 HB2 HC
  obtain ⟨sz, hsz⟩ : ∃ sz, sz = (txB t).length := ⟨_, rfl⟩
  obtain ⟨mk, hmk⟩ : ∃ mk, mk = mostKey t.ins := ⟨_, rfl⟩
  obtain ⟨b3, hb3⟩ : ∃ b, b = sumIs (t.outs.map (·.val)) := ⟨_, rfl⟩
  obtain ⟨b4, hb4⟩ : ∃ b, b = twiceB t.ins := ⟨_, rfl⟩
  obtain ⟨b5, hb5⟩ : ∃ b, b = rightB t := ⟨_, rfl⟩
  rw [← hsz, ← hmk, ← hb3, ← hb4, ← hb5] at HC2
  have SZ : Hid (∀ w', Below w1.heap.size w1 w' → Calls Tryd.prog 33 #[.agg [nV vt, .slice si ni ci, .slice so no co, nV tt].toArray] w' fun e w'' => e = .returned (.int .i64 (sz : Int)) ∧ Below w'.heap.size w' w'') := fun w' hw' => by
    rw [hsz]
    exact size_all t _ w' ((H1.out.below B0.out).below hw') TS.out
  have MK := Lib.hid hmk
  have HB3 := Lib.hid hb3
  have HB4 := Lib.hid hb4
  have HB5 := Lib.hid hb5
  clear hsz hmk hb3 hb4 hb5
  go_wp2_with ((with_reducible show wpList _ _ _ _ _ _); refine wpList_load_row rfl 32 (.tmp 1) rfl w.heap.size rfl 32 [nV vt, .slice si ni ci, .slice so no co, nV tt].toArray (0, 0) _ FB.out Tryd.underlying32 rfl (by kernel_rfl) ?_; go_frame)
  refine (SZ.out _ BB.out).mono ?_
  rintro e w2 ⟨rfl, hx⟩
  have BB := Lib.hid (BB.out.trans (hx.mono BB.out.size))
  have FB := Lib.hid (row_below FB.out hx)
  clear hx
  by_cases h4 : 4000 < sz
  · have e1 : (4000 : Int) < (sz : Int) := by omega
    have H4 := Lib.hid h4
    clear h4
    have q : w2.cell? ⟨1, 0, none⟩ = some (.iface 127 (.pointer (some (E 2)))) := ((HE.out.below B0.out).below BB.out) 2 (by omega)
    have HQ : Hid (c = 3) := by
      show _ = _
      rw [HC2.out, if_pos H4.out]
    go_wp2_with fail
    go_ret
    exact ⟨by rw [HQ.out]; rfl, B0.out.trans (BB.out.mono B0.out.size)⟩
  have e1 : ¬ (4000 : Int) < (sz : Int) := by omega
  have hc3 := HC2.out
  rw [if_neg h4] at hc3
  have HC3 := Lib.hid hc3
  clear h4 HC2 hc3
  go_wp2_with ((with_reducible show wpList _ _ _ _ _ _); refine wpList_load_row rfl 32 (.tmp 1) rfl w.heap.size rfl 32 [nV vt, .slice si ni ci, .slice so no co, nV tt].toArray (0, 0) _ FB.out Tryd.underlying32 rfl (by kernel_rfl) ?_; go_frame)
  refine (longest_any t _ w2 ((H1.out.below B0.out).below BB.out) TS.out mk MK.out).mono ?_
  rintro e w3 ⟨rfl, hx⟩
  have BB := Lib.hid (BB.out.trans (hx.mono BB.out.size))
  have FB := Lib.hid (row_below FB.out hx)
  clear hx e1
  by_cases h4 : 80 < mk
  · have e1 : (80 : Int) < (mk : Int) := by omega
    have H4 := Lib.hid h4
    clear h4
    have q : w3.cell? ⟨6, 0, none⟩ = some (.iface 127 (.pointer (some (E 13)))) := ((HE.out.below B0.out).below BB.out) 13 (by omega)
    have HQ : Hid (c = 14) := by
      show _ = _
      rw [HC3.out, if_pos H4.out]
    go_wp2_with fail
    go_ret
    exact ⟨by rw [HQ.out]; rfl, B0.out.trans (BB.out.mono B0.out.size)⟩
  have e1 : ¬ (80 : Int) < (mk : Int) := by omega
  have hc4 := HC3.out
  rw [if_neg h4] at hc4
  have HC4 := Lib.hid hc4
  clear h4 HC3 hc4
  go_wp2_with ((with_reducible show wpList _ _ _ _ _ _); refine wpList_load_row rfl 32 (.tmp 1) rfl w.heap.size rfl 32 [nV vt, .slice si ni ci, .slice so no co, nV tt].toArray (0, 0) _ FB.out Tryd.underlying32 rfl (by kernel_rfl) ?_; go_frame)
  refine (adds_any t _ w3 ((H1.out.below B0.out).below BB.out) TS.out b3 HB3.out).mono ?_
  rintro e w4 ⟨rfl, hx⟩
  have BB := Lib.hid (BB.out.trans (hx.mono BB.out.size))
  have FB := Lib.hid (row_below FB.out hx)
  clear hx e1
  cases b3
  · have q : w4.cell? ⟨7, 0, none⟩ = some (.iface 127 (.pointer (some (E 4)))) := ((HE.out.below B0.out).below BB.out) 4 (by omega)
    have HQ : Hid (c = 5) := by
      show _ = _
      rw [HC4.out, if_pos rfl]
    go_wp2_with fail
    go_ret
    exact ⟨by rw [HQ.out]; rfl, B0.out.trans (BB.out.mono B0.out.size)⟩
  have hc5 := HC4.out
  rw [if_neg (by simp)] at hc5
  have HC5 := Lib.hid hc5
  clear HC4 hc5
  go_wp2_with ((with_reducible show wpList _ _ _ _ _ _); refine wpList_load_row rfl 32 (.tmp 1) rfl w.heap.size rfl 32 [nV vt, .slice si ni ci, .slice so no co, nV tt].toArray (0, 0) _ FB.out Tryd.underlying32 rfl (by kernel_rfl) ?_; go_frame)
  refine (places_any t _ w4 ((H1.out.below B0.out).below BB.out) TS.out b4 HB4.out).mono ?_
  rintro e w5 ⟨rfl, hx⟩
  have BB := Lib.hid (BB.out.trans (hx.mono BB.out.size))
  have FB := Lib.hid (row_below FB.out hx)
  clear hx
  cases b4
  rotate_left
  · have q : w5.cell? ⟨2, 0, none⟩ = some (.iface 127 (.pointer (some (E 5)))) := ((HE.out.below B0.out).below BB.out) 5 (by omega)
    have HQ : Hid (c = 6) := by
      show _ = _
      rw [HC5.out, if_pos rfl]
    go_wp2_with fail
    go_ret
    exact ⟨by rw [HQ.out]; rfl, B0.out.trans (BB.out.mono B0.out.size)⟩
  have hc6 := HC5.out
  rw [if_neg (by simp)] at hc6
  have HC6 := Lib.hid hc6
  clear HC5 hc6
  go_wp2_with ((with_reducible show wpList _ _ _ _ _ _); refine wpList_load_row rfl 32 (.tmp 1) rfl w.heap.size rfl 32 [nV vt, .slice si ni ci, .slice so no co, nV tt].toArray (0, 0) _ FB.out Tryd.underlying32 rfl (by kernel_rfl) ?_; go_frame)
  refine (bases_any t _ w5 ((H1.out.below B0.out).below BB.out) TS.out b5 HB5.out).mono ?_
  rintro e w6 ⟨rfl, hx⟩
  have BB := Lib.hid (BB.out.trans (hx.mono BB.out.size))
  clear hx
  cases b5
  · have q : w6.cell? ⟨5, 0, none⟩ = some (.iface 127 (.pointer (some (E 6)))) := ((HE.out.below B0.out).below BB.out) 6 (by omega)
    have HQ : Hid (c = 7) := by
      show _ = _
      rw [HC6.out, if_neg (by simp)]
    go_wp2_with fail
    go_ret
    exact ⟨by rw [HQ.out]; rfl, B0.out.trans (BB.out.mono B0.out.size)⟩
  have HQ : Hid (c = 0) := by show _ = _; rw [HC6.out, if_pos rfl]
  go_wp2_with fail
  go_ret
  exact ⟨by rw [HQ.out]; rfl, B0.out.trans (BB.out.mono B0.out.size)⟩
end Go.Proofs.YtcghbogkplcohaaDoor.Sha

/-
  Rows of one or two inputs, or outputs, as slices; what is amiss with transactions of few inputs. Conditions: those that each states.
-/
namespace Go.Proofs.YtcghbogkplcohaaDoor.Sha
open Go Go.RowKit
theorem insAt_one {w : World} {g : Nat} {x : TIn} {kv : Value} {fr : Nat × Nat} (h : w.heap[g]? = some (.cells (inL x kv).toArray 42 fr)) (hx : InOk x) (hk : KeyAt w kv x.key) : InsAt w (.slice (some ⟨g, 0, none⟩) 1 1) [x] :=
  ⟨_, 1, rfl, Nat.le_refl _, fun _ => ⟨g, 0, rfl, fun i y hy => by
    have hi := (List.getElem?_eq_some_iff.1 hy).1
    simp at hi
    subst hi
    simp only [List.getElem?_cons_zero, Option.some.injEq] at hy
    subst hy
    exact ⟨hx, kv, hk, range_of_box h⟩⟩⟩
theorem insAt_two {w : World} {g : Nat} {x y : TIn} {kv kw : Value} {fr : Nat × Nat} (h : w.heap[g]? = some (.cells (inL x kv ++ inL y kw).toArray 42 fr)) (hx : InOk x) (hy : InOk y) (hk : KeyAt w kv x.key) (hk2 : KeyAt w kw y.key) : InsAt w (.slice (some ⟨g, 0, none⟩) 2 2) [x, y] :=
  ⟨_, 2, rfl, Nat.le_refl _, fun _ => ⟨g, 0, rfl, fun i z hz => by
    have hr := range_of_box h
    have hl := inL_length x kv hx.1
    have hi := (List.getElem?_eq_some_iff.1 hz).1
    simp at hi
    obtain rfl | rfl : i = 0 ∨ i = 1 := by omega
    · simp only [List.getElem?_cons_zero, Option.some.injEq] at hz
      subst hz
      exact ⟨hx, kv, hk, fun j u hj => by
        have := hr j u (by rw [List.getElem?_append_left (List.getElem?_eq_some_iff.1 hj).1]; exact hj)
        simpa using this⟩
    · simp only [List.getElem?_cons_succ, List.getElem?_cons_zero, Option.some.injEq] at hz
      subst hz
      exact ⟨hy, kw, hk2, fun j u hj => by
        have := hr (35 + j) u (by rw [List.getElem?_append_right (by omega), hl, Nat.add_sub_cancel_left]; exact hj)
        simpa [Nat.add_assoc] using this⟩⟩⟩
theorem outsAt_one {w : World} {g : Nat} {y : TOut} {fr : Nat × Nat} (h : w.heap[g]? = some (.cells (outL y).toArray 44 fr)) (hy : OutOk y) : OutsAt w (.slice (some ⟨g, 0, none⟩) 1 1) [y] :=
  ⟨_, 1, rfl, Nat.le_refl _, fun _ => ⟨g, 0, rfl, fun i z hz => by
    have hi := (List.getElem?_eq_some_iff.1 hz).1
    simp at hi
    subst hi
    simp only [List.getElem?_cons_zero, Option.some.injEq] at hz
    subst hz
    exact ⟨hy, range_of_box h⟩⟩⟩
theorem nil_key (w : World) : KeyAt w (.slice none 0 0) [] := ⟨.inl ⟨_, _, rfl, rfl⟩, _, _, rfl⟩
def hOne : List UInt8 := 1 :: List.replicate 31 0
def bsX (bs : List UInt8) : TIn := ⟨zH, 4294967295, bs, 0⟩
def bsO (v : Nat) : TOut := ⟨v % 1000, zH⟩
def bsN : TIn := ⟨zH, 1, [], 0⟩
def bsV : TIn := ⟨hOne, 4294967295, [], 0⟩
def bsT (bs : List UInt8) (v : Nat) : TTx := ⟨0, [bsX bs], [bsO v], 0⟩
def bsU (bs : List UInt8) (v : Nat) : TTx := ⟨0, [bsN, bsX bs], [bsO v], 0⟩
def bsW (v : Nat) : TTx := ⟨0, [bsV], [bsO v], 0⟩
theorem bsX_ok (bs : List UInt8) : InOk (bsX bs) := ⟨rfl, Nat.le_refl _, Nat.zero_le _⟩
theorem bsN_ok : InOk bsN := ⟨rfl, by decide, Nat.zero_le _⟩
theorem bsV_ok : InOk bsV := ⟨rfl, Nat.le_refl _, Nat.zero_le _⟩
theorem bsO_ok (v : Nat) : OutOk (bsO v) := ⟨rfl, by show v % 1000 ≤ _; omega⟩
theorem small_of {l : List TIn} {v : Nat} (h1 : InsOk l) (h2 : l.length ≤ 2) (h3 : KeysLe l 80) : TxSmall ⟨0, l, [bsO v], 0⟩ :=
  ⟨⟨⟨Nat.zero_le _, Nat.zero_le _⟩, h1, fun y hy => by rw [List.mem_singleton.1 hy]; exact bsO_ok v, fun x hx => Nat.le_trans (h3 x hx) (by omega), by show l.length ≤ _; omega, by simp⟩, by show l.length ≤ _; omega, by simp, fun x hx => Nat.le_trans (h3 x hx) (by omega)⟩
theorem bs_sum (v : Nat) : sumIs [(bsO v).val] = true := by
  unfold sumIs
  rw [decide_eq_true_eq, most_eq]
  simp [bsO]
  omega
theorem bsT_small {bs : List UInt8} (v : Nat) (h : bs.length ≤ 80) : TxSmall (bsT bs v) := small_of (fun x hx => by rw [List.mem_singleton.1 hx]; exact bsX_ok bs) (by simp) (fun x hx => by rw [List.mem_singleton.1 hx]; exact h)
theorem bsU_small {bs : List UInt8} (v : Nat) (h : bs.length ≤ 80) : TxSmall (bsU bs v) := by
  refine small_of (fun x hx => ?_) (by simp) (fun x hx => ?_)
  · simp only [List.mem_cons, List.not_mem_nil, or_false] at hx
    rcases hx with rfl | rfl
    · exact bsN_ok
    · exact bsX_ok bs
  · simp only [List.mem_cons, List.not_mem_nil, or_false] at hx
    rcases hx with rfl | rfl
    · exact Nat.zero_le _
    · exact h
theorem bsW_small (v : Nat) : TxSmall (bsW v) := small_of (fun x hx => by rw [List.mem_singleton.1 hx]; exact bsV_ok) (by simp) (fun x hx => by rw [List.mem_singleton.1 hx]; exact Nat.zero_le _)
theorem zH_null : decide (zH = List.replicate 32 0) = true := by decide
theorem hOne_null : decide (hOne = List.replicate 32 0) = false := by decide
theorem bsX_null (bs : List UInt8) : isNullIn (bsX bs) = true := by
  unfold isNullIn bsX
  simp only [zH_null]
  rfl
theorem bsN_null : isNullIn bsN = false := by
  unfold isNullIn bsN
  simp
theorem bsV_null : isNullIn bsV = false := by
  unfold isNullIn bsV
  simp only [hOne_null]
  rfl
theorem bsT_base (bs : List UInt8) (v : Nat) : true = baseB (bsT bs v) := (bsX_null bs).symm
theorem bsU_base (bs : List UInt8) (v : Nat) : false = baseB (bsU bs v) := rfl
theorem bsW_base (v : Nat) : false = baseB (bsW v) := bsV_null.symm
theorem bsT_check {bs : List UInt8} (v : Nat) (h : bs.length ≤ 80) : checkC (bsT bs v) = if bs.length < 4 then 7 else 0 := by
  rw [chkC_rest (by simp [bsT])]
  have hb := (bsT_small v h).bytes
  have h1 : (insB (bsT bs v).ins).length ≤ 200 := by
    have e : insB (bsT bs v).ins = inB (bsX bs) := by simp [insB, bsT]
    rw [e, inB_length _ (bsX_ok bs)]
    have := lenN_bd (bsX bs).key.length
    have : (bsX bs).key.length = bs.length := rfl
    omega
  have h2 := lenN_bd (bsT bs v).ins.length
  have h3 := lenN_bd (bsT bs v).outs.length
  have h4 : (bsT bs v).outs.length = 1 := rfl
  rw [if_neg (by omega), if_neg (by show ¬ 80 < max 0 bs.length; omega), if_neg (by show ¬ sumIs [(bsO v).val] = false; rw [bs_sum]; simp), if_neg (by show ¬ (false || false) = true; simp)]
  have hr : rightB (bsT bs v) = !decide (bs.length < 4) := by
    unfold rightB
    rw [← bsT_base]
    simp [bsT, bsX]
  rw [hr]
  by_cases h5 : bs.length < 4
  · rw [if_pos h5, decide_eq_true h5]; rfl
  · rw [if_neg h5, decide_eq_false h5]; rfl
theorem bsU_check {bs : List UInt8} (v : Nat) (h : bs.length ≤ 80) : checkC (bsU bs v) = 7 := by
  rw [chkC_rest (by simp [bsU])]
  have hb := (bsU_small v h).bytes
  have h1 : (insB (bsU bs v).ins).length ≤ 300 := by
    have e : insB (bsU bs v).ins = inB bsN ++ inB (bsX bs) := by simp [insB, bsU]
    rw [e, List.length_append, inB_length _ (bsX_ok bs), inB_length _ bsN_ok]
    have := lenN_bd (bsX bs).key.length
    have := lenN_bd bsN.key.length
    have : (bsX bs).key.length = bs.length := rfl
    have : bsN.key.length = 0 := rfl
    omega
  have h2 := lenN_bd (bsU bs v).ins.length
  have h3 := lenN_bd (bsU bs v).outs.length
  have h4 : (bsU bs v).outs.length = 1 := rfl
  have h5 : twiceB (bsU bs v).ins = false := by
    show ((samePtIn bsN (bsX bs) || false) || (false || false)) = false
    have : samePtIn bsN (bsX bs) = false := by simp [samePtIn, bsN, bsX]
    rw [this]
    rfl
  have hr : rightB (bsU bs v) = false := by
    unfold rightB
    rw [← bsU_base]
    show (!(isNullIn bsN || (isNullIn (bsX bs) || false))) = false
    rw [bsX_null]
    simp
  rw [if_neg (by omega), if_neg (by show ¬ 80 < max (max 0 0) bs.length; omega), if_neg (by show ¬ sumIs [(bsO v).val] = false; rw [bs_sum]; simp), if_neg (by rw [h5]; simp), if_neg (by rw [hr]; simp)]
theorem bsW_check (v : Nat) : checkC (bsW v) = 0 := by
  rw [chkC_rest (by simp [bsW])]
  have hb := (bsW_small v).bytes
  have h1 : (insB (bsW v).ins).length ≤ 200 := by
    have e : insB (bsW v).ins = inB bsV := by simp [insB, bsW]
    rw [e, inB_length _ bsV_ok]
    have := lenN_bd bsV.key.length
    have : bsV.key.length = 0 := rfl
    omega
  have h2 := lenN_bd (bsW v).ins.length
  have h3 := lenN_bd (bsW v).outs.length
  have h4 : (bsW v).outs.length = 1 := rfl
  have hr : rightB (bsW v) = true := by
    unfold rightB
    rw [← bsW_base]
    show (!(isNullIn bsV || false)) = true
    rw [bsV_null]
    rfl
  rw [if_neg (by omega), if_neg (by show ¬ 80 < max 0 0; omega), if_neg (by show ¬ sumIs [(bsO v).val] = false; rw [bs_sum]; simp), if_neg (by show ¬ (false || false) = true; simp), if_pos hr]
end Go.Proofs.YtcghbogkplcohaaDoor.Sha

/-
  The chapter's examples hold, given what package tx is shown to answer. No conditions.
-/
namespace Go.Proofs.YtcghbogkplcohaaDoor.Sha
open Go Go.RowKit
theorem noTx_at (w : World) : TxAt w (.agg #[.int .u32 0, .slice none 0 0, .slice none 0 0, .int .u32 0]) noTx :=
  ⟨⟨by simp [noTx], by simp [noTx]⟩, .slice none 0 0, .slice none 0 0, rfl, ⟨none, 0, rfl, by simp [noTx], fun h => absurd h (by simp [noTx])⟩, ⟨none, 0, rfl, by simp [noTx], fun h => absurd h (by simp [noTx])⟩⟩
theorem noTx_small : TxSmall noTx := TxRead.small ⟨⟨by simp [noTx], by simp [noTx]⟩, fun _ h => absurd h (by simp [noTx]), fun _ h => absurd h (by simp [noTx]), fun _ h => absurd h (by simp [noTx]), by simp [noTx], by simp [noTx]⟩
theorem noTx_len : (txB noTx).length = 10 := by decide
end Go.Proofs.YtcghbogkplcohaaDoor.Sha

/-
  Numbers written by package compact as new memory; rows that are new grow. No conditions beyond those that each states.
-/
namespace Go.Proofs.YtcghbogkplcohaaDoor.Sha
open Go Go.RowKit
/-- New memory that reads as bs is answered. -/
def NewPost (w : World) (bs : List UInt8) (e : Ending) (w' : World) : Prop := ∃ sp n cap, e = .returned (.slice sp n cap) ∧ n = bs.length ∧ CopyB w w' (.slice sp n cap) bs
theorem newB_copy {w w' : World} {k c : Nat} {bs : List UInt8} (h : NewB w w' k c bs) : k = bs.length ∧ CopyB w w' (.slice (some ⟨w.heap.size, 0, none⟩) k c) bs := by
  have hl := own_len h.1
  refine ⟨hl, ?_, h.2⟩
  rw [← hl]
  exact h.1
theorem four_new (bs : List UInt8) (v : Value) (x : Nat) (w : World) (hs : SrcB w v bs) (hn : bs.length ≤ 70368744177664) (hx : x ≤ 4294967295) :
    Calls Tryd.prog 16 #[v, .int .u32 (x : Int)] w (NewPost w (bs ++ leB x 4)) := by
  obtain ⟨sp, cap, rfl⟩ := hs.shape
  refine (four_any bs sp bs.length cap x w hs hn hx).mono ?_
  rintro e w' ⟨rfl, h⟩
  exact ⟨_, _, _, rfl, newB_copy h⟩
theorem eight_new (bs : List UInt8) (v : Value) (x : Nat) (w : World) (hs : SrcB w v bs) (hn : bs.length ≤ 70368744177664) :
    Calls Tryd.prog 70 #[v, .int .u64 (x : Int)] w (NewPost w (bs ++ leB x 8)) := by
  obtain ⟨sp, cap, rfl⟩ := hs.shape
  refine (eight_any bs sp bs.length cap x w hs hn).mono ?_
  rintro e w' ⟨rfl, h⟩
  exact ⟨_, _, _, rfl, newB_copy h⟩
theorem put_new (bs : List UInt8) (v : Value) (x : Nat) (w : World) (hs : SrcB w v bs) (hn : bs.length ≤ 70368744177664) :
    Calls Tryd.prog 59 #[v, .int .u64 (x : Int)] w (NewPost w (bs ++ putL x)) := by
  obtain ⟨sp, cap, rfl⟩ := hs.shape
  refine (put_any bs sp bs.length cap x w hs hn).mono ?_
  rintro e w' ⟨rfl, h⟩
  exact ⟨_, _, _, rfl, newB_copy h⟩
theorem CopyB.src {w w' : World} {v : Value} {bs : List UInt8} (h : CopyB w w' v bs) : SrcB w' v bs := src_own h.1
theorem CopyB.keep {w w1 w2 : World} {v : Value} {bs : List UInt8} (h : CopyB w w1 v bs) (hb : Below w1.heap.size w1 w2) : CopyB w w2 v bs := ⟨own_kept h.1 hb, h.2.trans (hb.mono h.2.size)⟩
theorem CopyB.app {w w1 w2 : World} {v v' : Value} {bs cs : List UInt8} (h : CopyB w w1 v bs) (ho : w2.ownsRow w.heap.size 5 1 v' (bs.length + cs.length) (bs.map bV ++ cs.map bV)) (hg : w1.grownBy w2 v.ownBlock) : CopyB w w2 v' (bs ++ cs) :=
  ⟨by rw [List.length_append, List.map_append]; exact ho, own_grown h.2 (Nat.le_refl _) h.2.size h.1 hg⟩
theorem CopyB.start {w0 w w' : World} {v : Value} {bs : List UInt8} (h : CopyB w w' v bs) (hb : Below w0.heap.size w0 w) : CopyB w0 w' v bs := ⟨own_base h.1 hb.size, hb.trans (h.2.mono hb.size)⟩
theorem nil_src (w : World) : SrcB w (.slice none 0 0) [] := .inl ⟨_, _, rfl, rfl⟩
end Go.Proofs.YtcghbogkplcohaaDoor.Sha

/-
  Package tx writes an input and an output down, in new memory. Nothing that was there turns. Conditions: an input whose key lies in memory; a key of fewer than 2^45 bytes.
-/
namespace Go.Proofs.YtcghbogkplcohaaDoor.Sha
open Go Go.RowKit
set_option maxHeartbeats 1000000 in
set_option maxRecDepth 100000 in
theorem outBytes_any (y : TOut) (hy : OutOk y) (w : World) :
    Calls Tryd.prog 61 #[.agg (outL y).toArray] w fun e w' => ∃ v, e = .returned v ∧ CopyB w w' v (outB y) := by
  have YOK := Lib.hid hy
  obtain ⟨i0, hi, hz0, hz1, hz2⟩ := info_parts info_u8
  have hl : (outL y).length = 33 := outL_length y hy.1
  obtain ⟨cs, hcs⟩ : ∃ cs, cs = outL y := ⟨_, rfl⟩
  have LO : Hid (cs.toArray.size = 33) := by show _ = _; rw [hcs, List.size_toArray]; exact hl
  rw [← hcs]
  have CS := Lib.hid hcs
  clear hcs hl hy
  go_enter Tryd.func61, Tryd.ntmps61
  go_upto_region 1 with fail
  have F := Lib.hid (heap_alloc_new w (.cells cs.toArray 44 (0, 0)))
  have B0 := Lib.hid ((Below.refl w.heap.size w).alloc (Nat.le_refl _) (.cells cs.toArray 44 (0, 0)))
  generalize hw1 : World.alloc _ _ = w1
  have e1 : w.alloc (.cells cs.toArray 44 (0, 0)) = w1 := hw1
  rw [e1] at F B0
  clear hw1 e1
  have CV : Hid (∀ w', Below w1.heap.size w1 w' → w'.cell? ⟨w.heap.size, 0, none⟩ = some (.int .u64 (y.val : Int))) := fun w' hw' => by
    rw [cell_of_row _ _ _ _ _ _ (row_below F.out hw'), CS.out]
    rfl
  have CL : Hid (∀ w', Below w1.heap.size w1 w' → SrcB w' (.slice (some ⟨w.heap.size, 1, none⟩) 32 32) y.lock) := fun w' hw' => by
    have h := row_below F.out hw'
    rw [CS.out] at h
    have := out_lock (range_of_box h)
    exact src_range this YOK.out.1.symm (by omega) (Nat.le_refl _)
  obtain ⟨base, hbase⟩ : ∃ base, base = w1.heap.size := ⟨_, rfl⟩
  refine wp_region_held_drew (S := (fun w' => Below w1.heap.size w1 w')) (by kernel_rfl) (Below.drew (Below.refl _ _)) (fun hHeld => ?_)
  generalize hwd : w1.drew = wd
  rw [hwd] at hHeld
  clear hwd
  refine held_take (i := 0) (v := (.pointer (some ⟨w.heap.size, 0, none⟩))) rfl (by kernel_rfl) (by kernel_rfl) (by kernel_rfl) (fun _ _ _ h => h) (Or.inl ⟨by rfl, fun w' _ => by kernel_rfl⟩) hHeld ?_
  go_frame
  refine held_take (i := 1) (v := (.int .u64 (y.val : Int))) rfl (by kernel_rfl) (by kernel_rfl) (by kernel_rfl) (fun _ _ _ h => h) (yieldsIf_load_one (by rfl) 34 (.tmp 3) rfl w.heap.size (0) rfl _ _ (fun w' hw' => CV.out w' hw') Tryd.underlying34 rfl) hHeld ?_
  go_frame
  refine held_take (i := 3) (v := (.pointer (some ⟨w.heap.size, 1, none⟩))) rfl (by kernel_rfl) (by kernel_rfl) (by kernel_rfl) (fun _ _ _ h => h) (Or.inl ⟨by rfl, fun w' _ => by kernel_rfl⟩) hHeld ?_
  go_frame
  refine held_take (i := 4) (v := (.slice (some ⟨w.heap.size, 1, none⟩) 32 32)) rfl (by kernel_rfl) (by kernel_rfl) (by kernel_rfl) (fun _ _ _ h => h) (Or.inl ⟨by rfl, fun w' _ => by kernel_rfl⟩) hHeld ?_
  go_frame
  refine wpAnyH_ready (rs := [2]) (by kernel_rfl) (by simp) (held_cons rfl (fun K hK => ?_) AllReadyH.nil)
  go_simp
  refine (eight_new [] _ y.val wd (nil_src _) (by simp)).mono ?_
  rintro e w2 ⟨s2, n2, c2, rfl, hn2, hc2⟩
  have C2 := Lib.hid (hc2.start hHeld)
  have HE := Lib.hid (hHeld.trans (hc2.2.mono hHeld.size))
  clear hHeld hc2 hn2
  go_wp2_with fail
  refine hK.out _ _ HE.out (fun hHeld => ?_)
  clear hK K HE
  refine wpAnyH_ready (rs := [5]) (by kernel_rfl) (by simp) (held_cons rfl (fun K hK => ?_) AllReadyH.nil)
  rw [if_pos (by rfl)]
  refine wp_append_g w2 (.tmp 5) (.tmp 7) 40 rfl w1.heap.size 5 i0 Tryd.underlying40 hi hz0 hz1 hz2 _ _ _ rfl C2.out.1 (.slice (some ⟨w.heap.size, 1, none⟩) 32 32) y.lock rfl (CL.out w2 hHeld) (by have := YOK.out.1; simp only [List.length_append, leB_length, List.length_nil]; omega) C2.out.2.size ?_
  intro v3 w3 a1 a2 a3
  have C3 := Lib.hid (C2.out.app a1 a2)
  clear a1 a2 a3 hHeld C2
  go_frame
  refine hK.out _ _ C3.out.2 (fun hHeld => ?_)
  clear hK K
  refine held_take (i := 6) (v := v3) rfl (by kernel_rfl) (by kernel_rfl) (by kernel_rfl) (fun _ _ _ h => h) (Or.inl ⟨by rfl, fun w' _ => by kernel_rfl⟩) hHeld ?_
  go_frame
  refine wpAnyH_done (by kernel_rfl) ?_ _
  clear hHeld
  go_wp2_with fail
  go_ret
  refine ⟨_, rfl, ?_⟩
  have h := C3.out.start B0.out
  rwa [List.nil_append] at h
set_option maxHeartbeats 1000000 in
set_option maxRecDepth 100000 in
theorem inBytes_any (x : TIn) (kx : Value) (hx : InOk x) (w : World) (hk : KeyAt w kx x.key) (hkl : x.key.length ≤ 35184372088832) :
    Calls Tryd.prog 60 #[.agg (inL x kx).toArray] w fun e w' => ∃ v, e = .returned v ∧ CopyB w w' v (inB x) := by
  have XOK := Lib.hid hx
  obtain ⟨i0, hi, hz0, hz1, hz2⟩ := info_parts info_u8
  obtain ⟨sx, cx, rfl⟩ := hk.2
  obtain ⟨kl, hkl2⟩ : ∃ kl, kl = x.key.length := ⟨_, rfl⟩
  have KS := Lib.hid hk.1
  have BKL := Lib.hid hkl
  rw [← hkl2] at KS ⊢
  have KL := Lib.hid hkl2
  have bkl : kl ≤ 35184372088832 := by rw [hkl2]; exact hkl
  obtain ⟨cs, hcs⟩ : ∃ cs, cs = inL x (.slice sx kl cx) := ⟨_, rfl⟩
  rw [← hcs]
  have CS := Lib.hid hcs
  clear hcs hx hk hkl hkl2
  go_enter Tryd.func60, Tryd.ntmps60
  go_upto_region 1 with fail
  have F := Lib.hid (heap_alloc_new w (.cells cs.toArray 42 (0, 0)))
  have B0 := Lib.hid ((Below.refl w.heap.size w).alloc (Nat.le_refl _) (.cells cs.toArray 42 (0, 0)))
  generalize hw1 : World.alloc _ _ = w1
  have e1 : w.alloc (.cells cs.toArray 42 (0, 0)) = w1 := hw1
  rw [e1] at F B0
  clear hw1 e1
  have RB : Hid (∀ w', Below w1.heap.size w1 w' → w'.rangeAt w.heap.size 0 (inL x (.slice sx kl cx))) := fun w' hw' => by
    have h := row_below F.out hw'
    rw [CS.out] at h
    exact range_of_box h
  have C32 : Hid (∀ w', Below w1.heap.size w1 w' → w'.cell? ⟨w.heap.size, 32, none⟩ = some (.int .u32 (x.n : Int))) := fun w' hw' => by simpa using in_num XOK.out.1 (RB.out w' hw')
  have C33 : Hid (∀ w', Below w1.heap.size w1 w' → w'.cell? ⟨w.heap.size, 33, none⟩ = some (.slice sx kl cx)) := fun w' hw' => by simpa using in_key XOK.out.1 (RB.out w' hw')
  have C34 : Hid (∀ w', Below w1.heap.size w1 w' → w'.cell? ⟨w.heap.size, 34, none⟩ = some (.int .u32 (x.seq : Int))) := fun w' hw' => by simpa using in_seq XOK.out.1 (RB.out w' hw')
  have CH : Hid (∀ w', Below w1.heap.size w1 w' → SrcB w' (.slice (some ⟨w.heap.size, 0, none⟩) 32 32) x.h) := fun w' hw' => src_range (in_hash (RB.out w' hw')) XOK.out.1.symm (by omega) (Nat.le_refl _)
  refine wp_region_held_drew (S := (fun w' => Below w1.heap.size w1 w')) (by kernel_rfl) (Below.drew (Below.refl _ _)) (fun hHeld => ?_)
  generalize hwd : w1.drew = wd
  rw [hwd] at hHeld
  clear hwd
  refine held_take (i := 0) (v := (.pointer (some ⟨w.heap.size, 0, none⟩))) rfl (by kernel_rfl) (by kernel_rfl) (by kernel_rfl) (fun _ _ _ h => h) (Or.inl ⟨by rfl, fun w' _ => by kernel_rfl⟩) hHeld ?_
  go_frame
  refine held_take (i := 1) (v := (.pointer (some ⟨w.heap.size, 0, none⟩))) rfl (by kernel_rfl) (by kernel_rfl) (by kernel_rfl) (fun _ _ _ h => h) (Or.inl ⟨by rfl, fun w' _ => by kernel_rfl⟩) hHeld ?_
  go_frame
  refine held_take (i := 2) (v := (.slice (some ⟨w.heap.size, 0, none⟩) 32 32)) rfl (by kernel_rfl) (by kernel_rfl) (by kernel_rfl) (fun _ _ _ h => h) (Or.inl ⟨by rfl, fun w' _ => by kernel_rfl⟩) hHeld ?_
  go_frame
  refine held_take (i := 3) (v := (.pointer (some ⟨w.heap.size, 0, none⟩))) rfl (by kernel_rfl) (by kernel_rfl) (by kernel_rfl) (fun _ _ _ h => h) (Or.inl ⟨by rfl, fun w' _ => by kernel_rfl⟩) hHeld ?_
  go_frame
  refine held_take (i := 4) (v := (.pointer (some ⟨w.heap.size, 32, none⟩))) rfl (by kernel_rfl) (by kernel_rfl) (by kernel_rfl) (fun _ _ _ h => h) (Or.inl ⟨by rfl, fun w' _ => by kernel_rfl⟩) hHeld ?_
  go_frame
  refine held_take (i := 5) (v := (.int .u32 (x.n : Int))) rfl (by kernel_rfl) (by kernel_rfl) (by kernel_rfl) (fun _ _ _ h => h) (yieldsIf_load_one (by rfl) 26 (.tmp 8) rfl w.heap.size (32) rfl _ _ (fun w' hw' => C32.out w' hw') Tryd.underlying26 rfl) hHeld ?_
  go_frame
  refine wpAnyH_ready (rs := [6]) (by kernel_rfl) (by simp) (held_cons rfl (fun K hK => ?_) AllReadyH.nil)
  go_simp
  refine (four_new x.h _ x.n wd (CH.out wd hHeld) (by have := XOK.out.1; omega) XOK.out.2.1).mono ?_
  rintro e w2 ⟨s2, n2, c2, rfl, hn2, hc2⟩
  have C2 := Lib.hid (hc2.start hHeld)
  have HE := Lib.hid (hHeld.trans (hc2.2.mono hHeld.size))
  clear hHeld hc2 hn2
  go_wp2_with fail
  refine hK.out _ _ HE.out (fun hHeld => ?_)
  clear hK K HE
  refine held_take (i := 7) (v := (.slice s2 n2 c2)) rfl (by kernel_rfl) (by kernel_rfl) (by kernel_rfl) (fun _ _ _ h => h) (Or.inl ⟨by rfl, fun w' _ => by kernel_rfl⟩) hHeld ?_
  go_frame
  refine wpAnyH_done (by kernel_rfl) ?_ _
  clear hHeld
  have k33 := C33.out w2 C2.out.2
  have u1 : IntKind.u64.wrap (kl : Int) = (kl : Int) := u64_stays (by omega)
  go_wp2_with fail
  refine (put_new _ _ kl w2 C2.out.src (by have := XOK.out.1; simp only [List.length_append, leB_length]; omega)).mono ?_
  rintro e w3 ⟨s3, n3, c3, rfl, hn3, hc3⟩
  have C3 := Lib.hid (hc3.start C2.out.2)
  clear hc3 hn3 k33 u1
  have k33 := C33.out w3 C3.out.2
  obtain ⟨A3, hA3⟩ : ∃ A3, A3 = x.h ++ leB x.n 4 ++ putL kl := ⟨_, rfl⟩
  rw [← hA3] at C3
  have LA3 : Hid (A3.length ≤ 45) := by show _ ≤ _; rw [hA3]; have := XOK.out.1; have := lenN_bd kl; simp only [List.length_append, leB_length, putL_length]; omega
  have HA3 := Lib.hid hA3
  clear hA3
  go_wp2_with ((with_reducible show wpList _ _ _ _ _ _); refine wpList_append_g w3 rfl (.tmp 17) (.tmp 19) 40 rfl w1.heap.size 5 i0 Tryd.underlying40 hi hz0 hz1 hz2 _ _ _ (by rfl) C3.out.1 (.slice sx kl cx) x.key (by rfl) ((KS.out.below B0.out).below C3.out.2) (by have := LA3.out; have := BKL.out; omega) C3.out.2.size ?_; intro v4 w4 a1 a2 a3; have C4 := Lib.hid (C3.out.app a1 a2); have k34 := C34.out w4 C4.out.2; clear a1 a2 a3; go_frame)
  refine (four_new (A3 ++ x.key) v4 x.seq w4 C4.out.src (by have := LA3.out; have := BKL.out; simp only [List.length_append]; omega) XOK.out.2.2).mono ?_
  rintro e w5 ⟨s5, n5, c5, rfl, hn5, hc5⟩
  have C5 := Lib.hid ((hc5.start C4.out.2).start B0.out)
  clear hc5 hn5
  go_wp2_with fail
  go_ret
  refine ⟨_, rfl, ?_⟩
  have h := C5.out
  rw [HA3.out, KL.out] at h
  exact h
end Go.Proofs.YtcghbogkplcohaaDoor.Sha

/-
  Package tx writes a transaction down, in new memory. Nothing that was there turns. Condition: a transaction of a few inputs and outputs that lies in memory.
-/
namespace Go.Proofs.YtcghbogkplcohaaDoor.Sha
open Go Go.RowKit
def BtInv (n : Nat) (A : Nat → List UInt8) (w1 : World) (vb vi : Value) (wr : World) : Prop :=
  ∃ (k : Nat) (vq : Value), vq = vb ∧ k ≤ n ∧ vi = .int .i64 k ∧ CopyB w1 wr vq (A k)
set_option maxHeartbeats 4000000 in
set_option maxRecDepth 100000 in
theorem bytes_all : BytesC := by
  intro t v w h1 hs
  obtain ⟨i0, hi, hz0, hz1, hz2⟩ := info_parts info_u8
  have h1' := h1
  obtain ⟨ht0, iv, ov, rfl, hti, hto⟩ := h1
  obtain ⟨si, ci, rfl, hci, hti⟩ := hti
  obtain ⟨so, co, rfl, hco, hto⟩ := hto
  have HTI := Lib.hid hti
  have HTO := Lib.hid hto
  obtain ⟨ni, hn1⟩ : ∃ ni, ni = t.ins.length := ⟨_, rfl⟩
  obtain ⟨no, hn2⟩ : ∃ no, no = t.outs.length := ⟨_, rfl⟩
  obtain ⟨vt, hvt⟩ : ∃ vt, vt = t.ver := ⟨_, rfl⟩
  obtain ⟨tt, htt⟩ : ∃ tt, tt = t.time := ⟨_, rfl⟩
  have NI := Lib.hid hn1
  have NO := Lib.hid hn2
  have VT := Lib.hid hvt
  have TT := Lib.hid htt
  have TS := Lib.hid hs
  have bni : ni ≤ 1000 := by rw [hn1]; exact hs.2.1
  have bno : no ≤ 1000 := by rw [hn2]; exact hs.2.2.1
  simp only [txL, ← hn1, ← hn2, ← hvt, ← htt] at h1' ⊢
  have H1 := Lib.hid h1'
  clear hn1 hn2 hci hco hvt htt ht0 hti hto h1' hs
  
  go_enter Tryd.func43, Tryd.ntmps43
  go_upto_region 1 with fail
  have F := Lib.hid (heap_alloc_new w (.cells [nV vt, .slice si ni ci, .slice so no co, nV tt].toArray 32 (0, 0)))
  have B0 := Lib.hid ((Below.refl w.heap.size w).alloc (Nat.le_refl _) (.cells [nV vt, .slice si ni ci, .slice so no co, nV tt].toArray 32 (0, 0)))
  generalize hw1 : World.alloc _ _ = w1
  have e1 : w.alloc (.cells [nV vt, .slice si ni ci, .slice so no co, nV tt].toArray 32 (0, 0)) = w1 := hw1
  rw [e1] at F B0
  clear hw1 e1
  have BOX : Hid (∀ w', Below w1.heap.size w1 w' → ∀ j v, [nV vt, .slice si ni ci, .slice so no co, nV tt][j]? = some v → w'.cell? ⟨w.heap.size, j, none⟩ = some v) := fun w' hw' j v hj => by
    rw [cell_of_row _ _ _ _ _ _ (row_below F.out hw'), List.getElem?_toArray]
    exact hj
  obtain ⟨sz, hsz⟩ : ∃ sz, sz = (txB t).length := ⟨_, rfl⟩
  have bsz : sz ≤ 35184372088832 := by rw [hsz]; exact TS.out.len
  have SZ : Hid (∀ w', Below w1.heap.size w1 w' → Calls Tryd.prog 33 #[.agg [nV vt, .slice si ni ci, .slice so no co, nV tt].toArray] w' fun e w'' => e = .returned (.int .i64 (sz : Int)) ∧ Below w'.heap.size w' w'') := fun w' hw' => by
    rw [hsz]
    exact size_all t _ w' ((H1.out.below B0.out).below hw') TS.out
  have LI : Hid ((insB t.ins).length ≤ 200000000) := TS.out.ins0
  have LO : Hid ((outsB t.outs).length ≤ 40000) := by show _ ≤ _; rw [outsB_length t.outs TS.out.1.2.2.1]; have := TS.out.2.2.1; omega
  have VTB : Hid (vt ≤ 4294967295) := by show _ ≤ _; rw [VT.out]; exact TS.out.1.1.1
  have TTB : Hid (tt ≤ 4294967295) := by show _ ≤ _; rw [TT.out]; exact TS.out.1.1.2
  clear hsz
  go_wp2_with ((with_reducible show wpList _ _ _ _ _ _); refine wpList_load_row rfl 32 (.tmp 1) rfl w.heap.size rfl 32 [nV vt, .slice si ni ci, .slice so no co, nV tt].toArray (0, 0) _ F.out Tryd.underlying32 rfl (by kernel_rfl) ?_; go_frame)
  refine (SZ.out w1 (Below.refl _ _)).mono ?_
  rintro e w2 ⟨rfl, hb2⟩
  have B2 := Lib.hid hb2
  clear hb2 SZ
  have c0 : w2.cell? ⟨w.heap.size, 0, none⟩ = some (Value.int .u32 (vt : Int)) := BOX.out w2 B2.out 0 _ rfl
  go_upto_region 2 with (at_make; refine wpList_make_own _ rfl _ _ 40 rfl w2.heap.size 5 i0 (.int .u8 0) 1 Tryd.underlying40 hi hz0 hz1 _ _ _ sz rfl rfl (by omega) (by rw [hz2]; omega) (by unfold maxLen; omega) (Nat.le_refl _) ?_; intro w3 hown hgrow; have C3 : Hid (CopyB w2 w3 (.slice (some ⟨w2.heap.size, 0, none⟩) 0 sz) []) := (⟨hown, below_made hgrow⟩ : CopyB w2 w3 (.slice (some ⟨w2.heap.size, 0, none⟩) 0 sz) []); clear hown hgrow; go_frame)
  have C3 := Lib.hid (C3.out.start B2.out)
  clear c0 bsz
  have c0 : w3.cell? ⟨w.heap.size, 0, none⟩ = some (Value.int .u32 (vt : Int)) := BOX.out w3 C3.out.2 0 _ rfl
  go_wp2_with fail
  refine (four_new [] _ vt w3 (nil_src _) (by simp) VTB.out).mono ?_
  rintro e w4 ⟨s4, n4, c4, rfl, hn4, hc4⟩
  have P4 := Lib.hid hc4
  have C4 := Lib.hid (C3.out.keep hc4.2)
  clear hn4 hc4 c0 C3
  rw [List.nil_append] at P4
  go_upto_region 3 with ((with_reducible show wpList _ _ _ _ _ _); refine wpList_append_g _ rfl (.tmp 11) (.tmp 14) 40 rfl w1.heap.size 5 i0 Tryd.underlying40 hi hz0 hz1 hz2 _ _ _ (by rfl) C4.out.1 (.slice s4 n4 c4) (leB vt 4) (by rfl) P4.out.src (by simp only [leB_length, List.length_nil]; omega) C4.out.2.size ?_; intro v5 w5 a1 a2 a3; have C5 := Lib.hid (C4.out.app a1 a2); clear a1 a2 a3; go_frame)
  obtain ⟨A5, hA5⟩ : ∃ A5, A5 = leB vt 4 := ⟨_, rfl⟩
  rw [List.nil_append, ← hA5] at C5
  have LA5 : Hid (A5.length = 4) := by show _ = _; rw [hA5, leB_length]
  have HA5 := Lib.hid hA5
  clear hA5 P4 C4
  have c1 : w5.cell? ⟨w.heap.size, 1, none⟩ = some (Value.slice si ni ci) := BOX.out w5 C5.out.2 1 _ rfl
  have u1 : IntKind.u64.wrap (ni : Int) = (ni : Int) := u64_stays (by omega)
  go_wp2_with fail
  refine (put_new [] _ ni w5 (nil_src _) (by simp)).mono ?_
  rintro e w6 ⟨s6, n6, c6, rfl, hn6, hc6⟩
  have P6 := Lib.hid hc6
  have C6 := Lib.hid (C5.out.keep hc6.2)
  clear hn6 hc6 c1 u1 C5
  rw [List.nil_append] at P6
  have LP6 : Hid ((putL ni).length ≤ 9) := by show _ ≤ _; rw [putL_length]; have := lenN_bd ni; omega
  go_upto_region 4 with ((with_reducible show wpList _ _ _ _ _ _); refine wpList_append_g _ rfl (.tmp 16) (.tmp 21) 40 rfl w1.heap.size 5 i0 Tryd.underlying40 hi hz0 hz1 hz2 _ _ _ (by rfl) C6.out.1 (.slice s6 n6 c6) (putL ni) (by rfl) P6.out.src (by have := LA5.out; have := LP6.out; omega) C6.out.2.size ?_; intro v7 w7 a1 a2 a3; have C7 := Lib.hid (C6.out.app a1 a2); clear a1 a2 a3; go_frame)
  obtain ⟨A7, hA7⟩ : ∃ A7, A7 = A5 ++ putL ni := ⟨_, rfl⟩
  rw [← hA7] at C7
  have LA7 : Hid (A7.length ≤ 13) := by show _ ≤ _; rw [hA7, List.length_append]; have := LA5.out; have := LP6.out; omega
  have HA7 := Lib.hid hA7
  clear hA7 P6 C6 LP6 LA5
  have c1 : w7.cell? ⟨w.heap.size, 1, none⟩ = some (Value.slice si ni ci) := BOX.out w7 C7.out.2 1 _ rfl
  go_wp2_with fail
  clear c1
  go_loopw [3, 26] (fun vb vi wr => BtInv ni (fun k => A7 ++ insB (t.ins.take k)) w1 vb vi wr) (fun _ i _ => ni - (intOf i).toNat)
  case atStart => exact ⟨0, _, rfl, by omega, rfl, by simpa [insB] using C7.out⟩
  case round =>
    clear C7
    obtain ⟨k, vb, rfl, hk, rfl, HC⟩ := hrel
    have HC : CopyB w1 wr vb (A7 ++ insB (t.ins.take k)) := HC
    have HC := Lib.hid HC
    have B := Lib.hid HC.out.2
    by_cases hlt : k < ni
    · have hkx : k < t.ins.length := by have := NI.out; omega
      obtain ⟨b1, o1, hs1, he1⟩ := HTI.out (by omega)
      have g1 := he1 k _ (List.getElem?_eq_getElem hkx)
      obtain ⟨x, hx⟩ : ∃ x, x = t.ins[k] := ⟨_, rfl⟩
      rw [← hx] at g1
      have hgx : t.ins[k]? = some x := by rw [hx]; exact List.getElem?_eq_getElem _
      obtain ⟨hx1, kx, hkx2, hr1⟩ := g1
      obtain ⟨sx, cx, hkv⟩ := hkx2.2
      obtain ⟨kl, hkl⟩ : ∃ kl, kl = x.key.length := ⟨_, rfl⟩
      rw [← hkl] at hkv
      subst hkv
      have p0 : 0 ≤ (k : Int) := by omega
      have q0 : (k : Int) < (ni : Int) := by omega
      have bkl : kl ≤ 100000 := by rw [hkl]; exact TS.out.2.2.2 x (List.mem_of_getElem? hgx)
      have R1 := Lib.hid (range_below (range_below hr1 B0.out) B.out)
      have KW := Lib.hid ((hkx2.1.below B0.out).below B.out)
      have GX := Lib.hid hgx
      have KL := Lib.hid hkl
      have XOK := Lib.hid hx1
      have ONE := Lib.hid (in_one x (.slice sx kl cx) rfl)
      have LX : Hid ((inL x (.slice sx kl cx)).length = 35) := inL_length x _ hx1.1
      have LX' : Hid ((inL x (.slice sx kl cx)).toArray.size = 35) := by show _ = _; rw [List.size_toArray]; exact LX.out
      subst hs1
      clear hx hgx he1 hx1 hkx2 hr1 hkl hkx
      obtain ⟨g5, hg5⟩ : ∃ g5, g5 = wr.heap.size := ⟨_, rfl⟩
      obtain ⟨_, f2, f3, f4⟩ := fill_setup (Below.refl wr.heap.size wr) (List.replicate 32 (bV 0) ++ [nV 0, .slice none 0 0, nV 0]).toArray (inL x (.slice sx kl cx)).toArray 42
      go_upto_region 7 with ((with_reducible show wpList _ _ _ _ _ _); first | (refine wpList_load_mid rfl 42 (.tmp 28) rfl b1 (o1 + k * 35) rfl (inL x (.slice sx kl cx)) _ R1.out Tryd.underlying42 rfl (by rw [LX.out]; kernel_rfl) ?_; go_frame) | (refine wpList_store_row rfl 42 (.tmp 5) (.tmp 29) rfl wr.heap.size (inL x (.slice sx kl cx)).toArray rfl rfl 42 _ (heap_alloc_new _ _) (by rw [LX'.out]; kernel_rfl) (by rw [LX'.out]; rfl) ONE.out ?_; go_frame))
      rw [← hg5] at f2 f3 f4 ⊢
      generalize hw5 : World.setRow _ _ _ = w5
      have e5 : World.setRow (wr.alloc (.cells (List.replicate 32 (bV 0) ++ [nV 0, .slice none 0 0, nV 0]).toArray 42)) g5 (inL x (.slice sx kl cx)).toArray = w5 := hw5
      rw [e5] at f2 f4
      rw [hg5] at f4
      have F5 := Lib.hid f2
      have N5 := Lib.hid f4
      have B5 := Lib.hid (B.out.trans (f4.mono B.out.size))
      have G5 := Lib.hid hg5
      have IN5 : Hid (∀ (j : Nat) (u : Value), (inL x (.slice sx kl cx))[j]? = some u → w5.cell? ⟨g5, j, none⟩ = some u) := fun j u hj => by
        rw [cell_of_row _ _ _ _ _ _ F5.out, List.getElem?_toArray]
        exact hj
      have X33 : Hid ((inL x (.slice sx kl cx))[33]? = some (.slice sx kl cx)) := by show _ = _; rw [inL, List.getElem?_append_right (by simp [ptL, XOK.out.1])]; simp [ptL, XOK.out.1]
      clear f2 f3 f4 hg5 hw5 e5
      have HC5 := Lib.hid (HC.out.keep N5.out)
      have LB : Hid ((A7 ++ insB (t.ins.take k)).length ≤ 200000013 ∧ (inB x).length ≤ 200000000) := by
        show _ ∧ _
        have h1 := ins_part GX.out
        have h2 := LI.out
        have h3 := LA7.out
        rw [List.length_append]
        omega
      have KA : Hid (KeyAt w5 (.slice sx kl cx) x.key) := ⟨KW.out.below N5.out, sx, cx, by rw [KL.out]⟩
      obtain ⟨bs, hbs⟩ : ∃ bs, bs = A7 ++ insB (t.ins.take k) := ⟨_, rfl⟩
      rw [← hbs] at HC5 LB
      have HBS := Lib.hid hbs
      clear hbs
      go_wp2_with ((with_reducible show wpList _ _ _ _ _ _); refine wpList_load_row rfl 42 (.tmp 5) rfl g5 rfl 42 (inL x (.slice sx kl cx)).toArray (0, 0) _ F5.out Tryd.underlying42 rfl (by rw [LX'.out]; kernel_rfl) ?_; go_frame)
      refine (inBytes_any x (.slice sx kl cx) XOK.out w5 KA.out (by rw [← KL.out]; omega)).mono ?_
      rintro e w6 ⟨v6, rfl, hc6⟩
      have P6 := Lib.hid hc6
      have C6 := Lib.hid (HC5.out.keep hc6.2)
      clear hc6
      go_wp2_with ((with_reducible show wpList _ _ _ _ _ _); refine wpList_append_g _ rfl (.tmp 30) (.tmp 32) 40 rfl w1.heap.size 5 i0 Tryd.underlying40 hi hz0 hz1 hz2 _ _ _ (by rfl) C6.out.1 v6 (inB x) (by rfl) P6.out.src (by have := LB.out; omega) C6.out.2.size ?_; intro v7 w7 a1 a2 a3; have C7 := Lib.hid (C6.out.app a1 a2); clear a1 a2 a3; go_frame)
      go_roundw
      case rel =>
        refine ⟨k + 1, v7, rfl, by omega, by go_num, ?_⟩
        have h := C7.out
        rw [HBS.out] at h
        show CopyB w1 w7 v7 (A7 ++ insB (t.ins.take (k + 1)))
        rw [ins_snoc GX.out]
        simpa only [List.append_assoc] using h
      case measure => simp [intOf]; omega
    · have hkn : k = ni := by omega
      have hge : ¬ (k : Int) < (ni : Int) := by omega
      have HC2 : CopyB w1 wr vb (A7 ++ insB t.ins) := by
        have h := HC.out
        rw [hkn, NI.out, List.take_length] at h
        exact h
      have C7 := Lib.hid HC2
      obtain ⟨A8, hA8⟩ : ∃ A8, A8 = A7 ++ insB t.ins := ⟨_, rfl⟩
      rw [← hA8] at C7
      have LA8 : Hid (A8.length ≤ 200000013) := by show _ ≤ _; rw [hA8, List.length_append]; have := LI.out; have := LA7.out; omega
      have HA8 := Lib.hid hA8
      clear hA8 HC HC2 hkn B LA7 LI
      have c2 : wr.cell? ⟨w.heap.size, 2, none⟩ = some (Value.slice so no co) := BOX.out wr C7.out.2 2 _ rfl
      have u1 : IntKind.u64.wrap (no : Int) = (no : Int) := u64_stays (by omega)
      go_wp2_with fail
      refine (put_new [] _ no wr (nil_src _) (by simp)).mono ?_
      rintro e w8 ⟨s8, n8, c8, rfl, hn8, hc8⟩
      have P8 := Lib.hid hc8
      have C8 := Lib.hid (C7.out.keep hc8.2)
      clear hn8 hc8 c2 u1 C7
      rw [List.nil_append] at P8
      have LP8 : Hid ((putL no).length ≤ 9) := by show _ ≤ _; rw [putL_length]; have := lenN_bd no; omega
      go_upto_region 10 with ((with_reducible show wpList _ _ _ _ _ _); refine wpList_append_g _ rfl (.tmp 35) (.tmp 40) 40 rfl w1.heap.size 5 i0 Tryd.underlying40 hi hz0 hz1 hz2 _ _ _ (by rfl) C8.out.1 (.slice s8 n8 c8) (putL no) (by rfl) P8.out.src (by have := LA8.out; have := LP8.out; omega) C8.out.2.size ?_; intro v9 w9 a1 a2 a3; have C9 := Lib.hid (C8.out.app a1 a2); clear a1 a2 a3; go_frame)
      obtain ⟨A9, hA9⟩ : ∃ A9, A9 = A8 ++ putL no := ⟨_, rfl⟩
      rw [← hA9] at C9
      have LA9 : Hid (A9.length ≤ 200000022) := by show _ ≤ _; rw [hA9, List.length_append]; have := LA8.out; have := LP8.out; omega
      have HA9 := Lib.hid hA9
      clear hA9 P8 C8 LP8 LA8
      have c2 : w9.cell? ⟨w.heap.size, 2, none⟩ = some (Value.slice so no co) := BOX.out w9 C9.out.2 2 _ rfl
      go_wp2_with fail
      clear c2 hlt hge hk
      go_loopw [3, 45] (fun vb vi wr => BtInv no (fun k => A9 ++ outsB (t.outs.take k)) w1 vb vi wr) (fun _ i _ => no - (intOf i).toNat)
      case atStart => exact ⟨0, _, rfl, by omega, rfl, by simpa [outsB] using C9.out⟩
      case round =>
        clear C9
        obtain ⟨k, vb, rfl, hk, rfl, HC⟩ := hrel
        have HC : CopyB w1 wr vb (A9 ++ outsB (t.outs.take k)) := HC
        have HC := Lib.hid HC
        have B := Lib.hid HC.out.2
        by_cases hlt : k < no
        · have hkx : k < t.outs.length := by have := NO.out; omega
          obtain ⟨b2, o2, hs2, he2⟩ := HTO.out (by omega)
          have g2 := he2 k _ (List.getElem?_eq_getElem hkx)
          obtain ⟨y, hy⟩ : ∃ y, y = t.outs[k] := ⟨_, rfl⟩
          rw [← hy] at g2
          have hgy : t.outs[k]? = some y := by rw [hy]; exact List.getElem?_eq_getElem _
          obtain ⟨hy1, hr2⟩ := g2
          have p0 : 0 ≤ (k : Int) := by omega
          have q0 : (k : Int) < (no : Int) := by omega
          have R2 := Lib.hid (range_below (range_below hr2 B0.out) B.out)
          have GY := Lib.hid hgy
          have YOK := Lib.hid hy1
          have ONE := Lib.hid (out_one y)
          have LY : Hid ((outL y).length = 33) := outL_length y hy1.1
          have LY' : Hid ((outL y).toArray.size = 33) := by show _ = _; rw [List.size_toArray]; exact LY.out
          subst hs2
          clear hy hgy he2 hy1 hr2 hkx
          obtain ⟨g5, hg5⟩ : ∃ g5, g5 = wr.heap.size := ⟨_, rfl⟩
          obtain ⟨_, f2, f3, f4⟩ := fill_setup (Below.refl wr.heap.size wr) (uV 0 :: List.replicate 32 (bV 0)).toArray (outL y).toArray 44
          go_upto_region 13 with ((with_reducible show wpList _ _ _ _ _ _); first | (refine wpList_load_mid rfl 44 (.tmp 47) rfl b2 (o2 + k * 33) rfl (outL y) _ R2.out Tryd.underlying44 rfl (by rw [LY.out]; kernel_rfl) ?_; go_frame) | (refine wpList_store_row rfl 44 (.tmp 7) (.tmp 48) rfl wr.heap.size (outL y).toArray rfl rfl 44 _ (heap_alloc_new _ _) (by rw [LY'.out]; kernel_rfl) (by rw [LY'.out]; rfl) ONE.out ?_; go_frame))
          rw [← hg5] at f2 f3 f4 ⊢
          generalize hw5 : World.setRow _ _ _ = w5
          have e5 : World.setRow (wr.alloc (.cells (uV 0 :: List.replicate 32 (bV 0)).toArray 44)) g5 (outL y).toArray = w5 := hw5
          rw [e5] at f2 f4
          rw [hg5] at f4
          have F5 := Lib.hid f2
          have N5 := Lib.hid f4
          have B5 := Lib.hid (B.out.trans (f4.mono B.out.size))
          have G5 := Lib.hid hg5
          clear f2 f3 f4 hg5 hw5 e5
          have HC5 := Lib.hid (HC.out.keep N5.out)
          have LB : Hid ((A9 ++ outsB (t.outs.take k)).length ≤ 200040022 ∧ (outB y).length ≤ 40000) := by
            show _ ∧ _
            have h1 := outs_part GY.out
            have h2 := LO.out
            have h3 := LA9.out
            rw [List.length_append]
            omega
          obtain ⟨bs, hbs⟩ : ∃ bs, bs = A9 ++ outsB (t.outs.take k) := ⟨_, rfl⟩
          rw [← hbs] at HC5 LB
          have HBS := Lib.hid hbs
          clear hbs
          go_wp2_with ((with_reducible show wpList _ _ _ _ _ _); refine wpList_load_row rfl 44 (.tmp 7) rfl g5 rfl 44 (outL y).toArray (0, 0) _ F5.out Tryd.underlying44 rfl (by rw [LY'.out]; kernel_rfl) ?_; go_frame)
          refine (outBytes_any y YOK.out w5).mono ?_
          rintro e w6 ⟨v6, rfl, hc6⟩
          have P6 := Lib.hid hc6
          have C6 := Lib.hid (HC5.out.keep hc6.2)
          clear hc6
          go_wp2_with ((with_reducible show wpList _ _ _ _ _ _); refine wpList_append_g _ rfl (.tmp 49) (.tmp 51) 40 rfl w1.heap.size 5 i0 Tryd.underlying40 hi hz0 hz1 hz2 _ _ _ (by rfl) C6.out.1 v6 (outB y) (by rfl) P6.out.src (by have := LB.out; omega) C6.out.2.size ?_; intro v7 w7 a1 a2 a3; have C7 := Lib.hid (C6.out.app a1 a2); clear a1 a2 a3; go_frame)
          go_roundw
          case rel =>
            refine ⟨k + 1, v7, rfl, by omega, by go_num, ?_⟩
            have h := C7.out
            rw [HBS.out] at h
            show CopyB w1 w7 v7 (A9 ++ outsB (t.outs.take (k + 1)))
            rw [outs_snoc GY.out]
            simpa only [List.append_assoc] using h
          case measure => simp [intOf]; omega
        · have hkn : k = no := by omega
          have hge : ¬ (k : Int) < (no : Int) := by omega
          have HC2 : CopyB w1 wr vb (A9 ++ outsB t.outs) := by
            have h := HC.out
            rw [hkn, NO.out, List.take_length] at h
            exact h
          have C9 := Lib.hid HC2
          obtain ⟨A10, hA10⟩ : ∃ A10, A10 = A9 ++ outsB t.outs := ⟨_, rfl⟩
          rw [← hA10] at C9
          have LA10 : Hid (A10.length ≤ 200040022) := by show _ ≤ _; rw [hA10, List.length_append]; have := LO.out; have := LA9.out; omega
          have HA10 := Lib.hid hA10
          clear hA10 HC HC2 hkn B
          have c3 : wr.cell? ⟨w.heap.size, 3, none⟩ = some (Value.int .u32 (tt : Int)) := BOX.out wr C9.out.2 3 _ rfl
          go_wp2_with fail
          refine (four_new [] _ tt wr (nil_src _) (by simp) TTB.out).mono ?_
          rintro e w10 ⟨s10, n10, c10, rfl, hn10, hc10⟩
          have P10 := Lib.hid hc10
          have C10 := Lib.hid (C9.out.keep hc10.2)
          clear hn10 hc10 c3 C9
          rw [List.nil_append] at P10
          go_wp2_with ((with_reducible show wpList _ _ _ _ _ _); refine wpList_append_g _ rfl (.tmp 54) (.tmp 57) 40 rfl w1.heap.size 5 i0 Tryd.underlying40 hi hz0 hz1 hz2 _ _ _ (by rfl) C10.out.1 (.slice s10 n10 c10) (leB tt 4) (by rfl) P10.out.src (by have := LA10.out; simp only [leB_length]; omega) C10.out.2.size ?_; intro v11 w11 a1 a2 a3; have C11 := Lib.hid (C10.out.app a1 a2); clear a1 a2 a3; go_frame)
          go_ret
          have e : A10 ++ leB tt 4 = txB t := by rw [HA10.out, HA9.out, HA8.out, HA7.out, HA5.out, txB, VT.out, TT.out, NI.out, NO.out]
          have h := C11.out
          rw [e] at h
          have h2 := h.start B0.out
          exact ⟨_, rfl, h2.1, h2.2⟩
end Go.Proofs.YtcghbogkplcohaaDoor.Sha

/-
  The statement on transactions that make coins answers true. Conditions: the key's bytes lie where the slice says; the errors are there.
-/
namespace Go.Proofs.YtcghbogkplcohaaDoor.Sha
open Go Go.RowKit
theorem lay3 (w : World) (A B C : Array Value) (T1 T2 T3 : TypeId) : Below w.heap.size w (((w.alloc (.cells A T1 (0, 0))).alloc (.cells B T2 (0, 0))).alloc (.cells C T3 (0, 0)))
    ∧ (((w.alloc (.cells A T1 (0, 0))).alloc (.cells B T2 (0, 0))).alloc (.cells C T3 (0, 0))).heap[w.heap.size]? = some (.cells A T1 (0, 0))
    ∧ (((w.alloc (.cells A T1 (0, 0))).alloc (.cells B T2 (0, 0))).alloc (.cells C T3 (0, 0))).heap[w.heap.size + 1]? = some (.cells B T2 (0, 0))
    ∧ (((w.alloc (.cells A T1 (0, 0))).alloc (.cells B T2 (0, 0))).alloc (.cells C T3 (0, 0))).heap[w.heap.size + 2]? = some (.cells C T3 (0, 0))
    ∧ (((w.alloc (.cells A T1 (0, 0))).alloc (.cells B T2 (0, 0))).alloc (.cells C T3 (0, 0))).heap.size = w.heap.size + 3 := by
  have hb : ∀ (w : World) (o : Obj), Below w.heap.size w (w.alloc o) := fun w o => (Below.refl _ _).alloc (Nat.le_refl _) o
  refine ⟨(hb w _).trans (((hb _ _).trans ((hb _ _).mono (by simp))).mono (by simp)), ?_, ?_, ?_, by simp⟩
  · exact row_below (row_below (heap_alloc_new w _) (hb _ _)) (hb _ _)
  · have := row_below (heap_alloc_new (w.alloc (.cells A T1 (0, 0))) (.cells B T2 (0, 0))) (hb _ (.cells C T3 (0, 0)))
    rwa [World.size_alloc] at this
  · have := heap_alloc_new ((w.alloc (.cells A T1 (0, 0))).alloc (.cells B T2 (0, 0))) (.cells C T3 (0, 0))
    rwa [World.size_alloc, World.size_alloc] at this
end Go.Proofs.YtcghbogkplcohaaDoor.Sha
