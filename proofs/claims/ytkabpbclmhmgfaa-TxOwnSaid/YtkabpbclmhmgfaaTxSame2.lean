/-
  The statements' own SameTx tells whether two transactions are the same. Nothing that was there turns. Conditions: transactions that lie in memory, keys of fewer than 2^46 bytes.
-/
import Derived.Test.YtkabpbclmhmgfaaTxSame
import Derived.Test.YtkabpbclmhmgfaaTxMath
namespace Go.Proofs.Ytkabpbclmhmgfaa.Sha
open Go Go.RowKit

def StInv (n : Nat) (P : Nat → Prop) (g : Nat) (ct cu : Array Value) (w : World) (i : Value) (wr : World) : Prop :=
  ∃ k : Nat, k ≤ n ∧ i = .int .i64 k ∧ P k ∧ wr.heap[g]? = some (.cells ct 26 (0, 0)) ∧ wr.heap[g + 1]? = some (.cells cu 26 (0, 0)) ∧ Below w.heap.size w wr
theorem list_of_get {α : Type} {l m : List α} (hl : l.length = m.length) (h : ∀ j, j < l.length → l[j]? = m[j]?) : l = m := by
  apply List.ext_getElem hl
  intro i h1 h2
  have := h i h1
  rw [List.getElem?_eq_getElem h1, List.getElem?_eq_getElem h2] at this
  exact Option.some.inj this
set_option maxHeartbeats 1000000 in
set_option maxRecDepth 100000 in
theorem sametx_any (t u : TTx) (v v' : Value) (w : World) (h1 : TxAt w v t) (h2 : TxAt w v' u) (hkl : KeysLe t.ins 70368744177664) (b : Bool) (hb : b = true ↔ t = u) (hlt : t.ins.length ≤ 4611686018427387904) (hlo : t.outs.length ≤ 4611686018427387904) :
    Calls Try.prog 7 #[v, v'] w fun e w' => e = .returned (.bool b) ∧ Below w.heap.size w w' := by
  obtain ⟨ht0, iv, ov, rfl, hti, hto⟩ := h1
  obtain ⟨hu0, iv', ov', rfl, hui, huo⟩ := h2
  obtain ⟨si, ci, rfl, hci, hti⟩ := hti
  obtain ⟨so, co, rfl, hco, hto⟩ := hto
  obtain ⟨si', ci', rfl, hci', hui⟩ := hui
  obtain ⟨so', co', rfl, hco', huo⟩ := huo
  have HB := Lib.hid hb
  have HTI := Lib.hid hti
  have HTO := Lib.hid hto
  have HUI := Lib.hid hui
  have HUO := Lib.hid huo
  have HKL := Lib.hid hkl
  have NEQ : Hid (t ≠ u → b = false) := fun h => by
    cases e : b
    · rfl
    · exact absurd (hb.1 e) h
  clear hb hti hto hui huo hkl ht0 hu0
  obtain ⟨ni, hni⟩ : ∃ ni, ni = t.ins.length := ⟨_, rfl⟩
  obtain ⟨no, hno⟩ : ∃ no, no = t.outs.length := ⟨_, rfl⟩
  obtain ⟨ni', hni'⟩ : ∃ ni', ni' = u.ins.length := ⟨_, rfl⟩
  obtain ⟨no', hno'⟩ : ∃ no', no' = u.outs.length := ⟨_, rfl⟩
  rw [← hni] at hlt
  rw [← hno] at hlo
  obtain ⟨vt, hvt⟩ : ∃ vt, vt = t.ver := ⟨_, rfl⟩
  obtain ⟨vu, hvu⟩ : ∃ vu, vu = u.ver := ⟨_, rfl⟩
  obtain ⟨tt, htt⟩ : ∃ tt, tt = t.time := ⟨_, rfl⟩
  obtain ⟨tu, htu⟩ : ∃ tu, tu = u.time := ⟨_, rfl⟩
  have NI := Lib.hid hni
  have NO := Lib.hid hno
  have NI' := Lib.hid hni'
  have NO' := Lib.hid hno'
  have VT := Lib.hid hvt
  have VU := Lib.hid hvu
  have TT := Lib.hid htt
  have TU := Lib.hid htu
  simp only [txL, ← hni, ← hno, ← hni', ← hno', ← hvt, ← hvu, ← htt, ← htu]
  clear hni hno hni' hno' hci hco hci' hco' hvt hvu htt htu
  go_enter Try.func7, Try.ntmps7
  go_upto_region 1 with fail
  obtain ⟨B, F, F'⟩ := boxes2 w [nV vt, .slice si ni ci, .slice so no co, nV tt] [nV vu, .slice si' ni' ci', .slice so' no' co', nV tu] 26
  generalize hw1 : World.alloc _ _ = w1
  rw [hw1] at B F F'
  have c0 : w1.cell? ⟨w.heap.size, 0, none⟩ = some (.int .u32 (vt : Int)) := by rw [cell_of_row _ _ _ _ _ _ F]; rfl
  have c1 : w1.cell? ⟨w.heap.size, 1, none⟩ = some (.slice si ni ci) := by rw [cell_of_row _ _ _ _ _ _ F]; rfl
  have c2 : w1.cell? ⟨w.heap.size, 2, none⟩ = some (.slice so no co) := by rw [cell_of_row _ _ _ _ _ _ F]; rfl
  have c3 : w1.cell? ⟨w.heap.size, 3, none⟩ = some (.int .u32 (tt : Int)) := by rw [cell_of_row _ _ _ _ _ _ F]; rfl
  have d0 : w1.cell? ⟨w.heap.size + 1, 0, none⟩ = some (.int .u32 (vu : Int)) := by rw [cell_of_row _ _ _ _ _ _ F']; rfl
  have d1 : w1.cell? ⟨w.heap.size + 1, 1, none⟩ = some (.slice si' ni' ci') := by rw [cell_of_row _ _ _ _ _ _ F']; rfl
  have d2 : w1.cell? ⟨w.heap.size + 1, 2, none⟩ = some (.slice so' no' co') := by rw [cell_of_row _ _ _ _ _ _ F']; rfl
  have d3 : w1.cell? ⟨w.heap.size + 1, 3, none⟩ = some (.int .u32 (tu : Int)) := by rw [cell_of_row _ _ _ _ _ _ F']; rfl
  have B := Lib.hid B
  have F := Lib.hid F
  have F' := Lib.hid F'
  clear hw1
  by_cases hv : vt = vu
  case neg =>
    have e1 : ((vt : Int) == (vu : Int)) = false := by rw [beq_eq_false_iff_ne]; omega
    have e2 : ((vt : Int) != (vu : Int)) = true := by simp [bne, e1]
    have HV := Lib.hid hv
    clear hv
    go_wp2_with fail
    go_ret
    exact ⟨by rw [NEQ.out (fun e => HV.out (by rw [VT.out, VU.out, e]))]; rfl, B.out⟩
  by_cases htm : tt = tu
  case neg =>
    have e1 : ((vt : Int) == (vu : Int)) = true := by rw [beq_iff_eq]; omega
    have e2 : ((vt : Int) != (vu : Int)) = false := by simp [bne, e1]
    have e3 : ((tt : Int) == (tu : Int)) = false := by rw [beq_eq_false_iff_ne]; omega
    have e4 : ((tt : Int) != (tu : Int)) = true := by simp [bne, e3]
    have HV := Lib.hid htm
    clear hv htm
    go_wp2_with fail
    go_ret
    exact ⟨by rw [NEQ.out (fun e => HV.out (by rw [TT.out, TU.out, e]))]; rfl, B.out⟩
  have e1 : ((vt : Int) == (vu : Int)) = true := by rw [beq_iff_eq]; omega
  have e2 : ((vt : Int) != (vu : Int)) = false := by simp [bne, e1]
  have e3 : ((tt : Int) == (tu : Int)) = true := by rw [beq_iff_eq]; omega
  have e4 : ((tt : Int) != (tu : Int)) = false := by simp [bne, e3]
  have HV := Lib.hid hv
  have HTM := Lib.hid htm
  clear hv htm
  by_cases hi : ni = ni'
  case neg =>
    have e5 : ((ni : Int) == (ni' : Int)) = false := by rw [beq_eq_false_iff_ne]; omega
    have e6 : ((ni : Int) != (ni' : Int)) = true := by simp [bne, e5]
    have HI := Lib.hid hi
    clear hi
    go_wp2_with fail
    go_ret
    exact ⟨by rw [NEQ.out (fun e => HI.out (by rw [NI.out, NI'.out, e]))]; rfl, B.out⟩
  have e5 : ((ni : Int) == (ni' : Int)) = true := by rw [beq_iff_eq]; omega
  have e6 : ((ni : Int) != (ni' : Int)) = false := by simp [bne, e5]
  have HI := Lib.hid hi
  clear hi
  by_cases ho : no = no'
  case neg =>
    have e7 : ((no : Int) == (no' : Int)) = false := by rw [beq_eq_false_iff_ne]; omega
    have e8 : ((no : Int) != (no' : Int)) = true := by simp [bne, e7]
    have HO := Lib.hid ho
    clear ho
    go_wp2_with fail
    go_ret
    exact ⟨by rw [NEQ.out (fun e => HO.out (by rw [NO.out, NO'.out, e]))]; rfl, B.out⟩
  have e7 : ((no : Int) == (no' : Int)) = true := by rw [beq_iff_eq]; omega
  have e8 : ((no : Int) != (no' : Int)) = false := by simp [bne, e7]
  have HO := Lib.hid ho
  clear ho
  go_wp2_with fail
  clear c0 c1 c2 c3 d0 d1 d2 d3 e1 e2 e3 e4 e5 e6 e7 e8
  go_loopw [5] (fun i wr => StInv ni (fun k => ∀ j, j < k → t.ins[j]? = u.ins[j]?) w.heap.size [nV vt, .slice si ni ci, .slice so no co, nV tt].toArray [nV vu, .slice si' ni' ci', .slice so' no' co', nV tu].toArray w i wr) (fun i _ => ni - (intOf i).toNat)
  case atStart => exact ⟨0, by omega, rfl, fun j hj => by omega, F.out, F'.out, B.out⟩
  case round =>
    clear F F' B
    obtain ⟨k, hk, rfl, hp, F, F', B⟩ := hrel
    have c1 : wr.cell? ⟨w.heap.size, 1, none⟩ = some (.slice si ni ci) := by rw [cell_of_row _ _ _ _ _ _ F]; rfl
    have HP := Lib.hid hp
    have F := Lib.hid F
    have F' := Lib.hid F'
    have B := Lib.hid B
    clear hp
    by_cases hlt2 : k < ni
    · have hkx : k < t.ins.length := by have := NI.out; omega
      have hky : k < u.ins.length := by have := NI.out; have := NI'.out; have := HI.out; omega
      obtain ⟨b1, o1, hs1, he1⟩ := HTI.out (by omega)
      obtain ⟨b2, o2, hs2, he2⟩ := HUI.out (by omega)
      have g1 := he1 k _ (List.getElem?_eq_getElem hkx)
      have g2 := he2 k _ (List.getElem?_eq_getElem hky)
      obtain ⟨x, hx⟩ : ∃ x, x = t.ins[k] := ⟨_, rfl⟩
      obtain ⟨y, hy⟩ : ∃ y, y = u.ins[k] := ⟨_, rfl⟩
      rw [← hx] at g1
      rw [← hy] at g2
      have hxm : x ∈ t.ins := by rw [hx]; exact List.getElem_mem _
      have hgx : t.ins[k]? = some x := by rw [hx]; exact List.getElem?_eq_getElem _
      have hgy : u.ins[k]? = some y := by rw [hy]; exact List.getElem?_eq_getElem _
      have HKX : Hid (x.key.length ≤ 70368744177664) := HKL.out x hxm
      obtain ⟨hx1, kx, hkx, hr1⟩ := g1
      obtain ⟨hy1, ky, hky, hr2⟩ := g2
      have R1 := Lib.hid hr1
      have R2 := Lib.hid hr2
      have KX := Lib.hid hkx
      have KY := Lib.hid hky
      have X1 := Lib.hid hx1
      have Y1 := Lib.hid hy1
      have LX := Lib.hid (inL_length x kx hx1.1)
      have LY := Lib.hid (inL_length y ky hy1.1)
      clear hx1 hkx hr1 hy1 hky hr2
      have p0 : 0 ≤ (k : Int) := by omega
      have q0 : (k : Int) < (ni : Int) := by omega
      have q1 : (k : Int) < (ni' : Int) := by have := HI.out; omega
      have GX := Lib.hid hgx
      have GY := Lib.hid hgy
      have HS1 := Lib.hid hs1
      have HS2 := Lib.hid hs2
      obtain ⟨q, hq⟩ : ∃ q, q = sameIn x y := ⟨_, rfl⟩
      have HQ := Lib.hid hq
      clear hx hy hgx hgy he1 he2 hxm hq hs1 hs2
      go_wp2_with fail
      refine wp_region_below (by kernel_rfl) (by kernel_rfl) wr (Below.refl _ _) ?_
      cases q
      all_goals
        repeat (first | (go_big_quiet_want; refine quiet_load_one 23 (.tmp 44) rfl w.heap.size 1 rfl (.slice (some ⟨b1, o1, none⟩) ni ci) _ (fun w' hw' => by rw [cell_of_row _ _ _ _ _ _ (row_below F.out hw'), ← HS1.out]; rfl) Try.underlying23 rfl ?_; go_frame; go_big_quiet_on) | (go_big_quiet_want; refine quiet_load_one 23 (.tmp 49) rfl (w.heap.size + 1) 1 rfl (.slice (some ⟨b2, o2, none⟩) ni' ci') _ (fun w' hw' => by rw [cell_of_row _ _ _ _ _ _ (row_below F'.out hw'), ← HS2.out]; rfl) Try.underlying23 rfl ?_; go_frame; go_big_quiet_on) | (go_big_quiet_want; refine quiet_load_mid 36 (.tmp 47) rfl b1 (o1 + k * 35) rfl (inL x kx) _ (fun w' hw' => range_below (range_below R1.out B.out) hw') Try.underlying36 rfl (by rw [LX.out]; kernel_rfl) ?_; go_frame; go_big_quiet_on) | (go_big_quiet_want; refine quiet_load_mid 36 (.tmp 52) rfl b2 (o2 + k * 35) rfl (inL y ky) _ (fun w' hw' => range_below (range_below R2.out B.out) hw') Try.underlying36 rfl (by rw [LY.out]; kernel_rfl) ?_; go_frame; go_big_quiet_on) | go_big_quiet_step ((intro hw'; first | with_reducible exact cls hw' (samein_any x y kx ky X1.out Y1.out _ ((KX.out.below B.out).below hw') ((KY.out.below B.out).below hw') HKX.out _ HQ.out) | rfl)))
        refine wpQuiet_nil ?_
        intro w7 hw7
        have F := Lib.hid (row_below F.out hw7)
        have F' := Lib.hid (row_below F'.out hw7)
        have B := Lib.hid (B.out.trans (hw7.mono B.out.size))
        clear hw7 c1
        go_wp2_with fail
      · go_ret
        refine ⟨?_, B.out⟩
        have hne : t ≠ u := fun e => by
          have h1 := GX.out
          rw [e, GY.out] at h1
          have h2 := (sameIn_iff x y).2 (Option.some.inj h1).symm
          rw [← HQ.out] at h2
          cases h2
        rw [NEQ.out hne]
        rfl
      · go_roundw
        case rel =>
          refine ⟨k + 1, by omega, by go_num, fun j hj => ?_, F.out, F'.out, B.out⟩
          by_cases hj2 : j < k
          · exact HP.out j hj2
          · obtain rfl : j = k := by omega
            rw [GX.out, GY.out, (sameIn_iff x y).1 HQ.out.symm]
        case measure => simp [intOf]; omega
    · have hkn : k = ni := by omega
      have hge : ¬ (k : Int) < (ni : Int) := by omega
      have HE := Lib.hid (list_of_get (l := t.ins) (m := u.ins) (by have := NI.out; have := NI'.out; have := HI.out; omega) (fun j hj => HP.out j (by have := NI.out; omega)))
      clear hkn
      go_wp2_with fail
      clear c1 hge HP hlt2
      have HEI := HE
      clear HE
      go_loopw [6] (fun i wr => StInv no (fun k => ∀ j, j < k → t.outs[j]? = u.outs[j]?) w.heap.size [nV vt, .slice si ni ci, .slice so no co, nV tt].toArray [nV vu, .slice si' ni' ci', .slice so' no' co', nV tu].toArray w i wr) (fun i _ => no - (intOf i).toNat)
      case atStart => exact ⟨0, by omega, rfl, fun j hj => by omega, F.out, F'.out, B.out⟩
      case round =>
        clear F F' B
        obtain ⟨k, hk, rfl, hp, F, F', B⟩ := hrel
        have c1 : wr.cell? ⟨w.heap.size, 2, none⟩ = some (.slice so no co) := by rw [cell_of_row _ _ _ _ _ _ F]; rfl
        have HP := Lib.hid hp
        have F := Lib.hid F
        have F' := Lib.hid F'
        have B := Lib.hid B
        clear hp
        by_cases hlt2 : k < no
        · have hkx : k < t.outs.length := by have := NO.out; omega
          have hky : k < u.outs.length := by have := NO.out; have := NO'.out; have := HO.out; omega
          obtain ⟨b1, o1, hs1, he1⟩ := HTO.out (by omega)
          obtain ⟨b2, o2, hs2, he2⟩ := HUO.out (by omega)
          have g1 := he1 k _ (List.getElem?_eq_getElem hkx)
          have g2 := he2 k _ (List.getElem?_eq_getElem hky)
          obtain ⟨x, hx⟩ : ∃ x, x = t.outs[k] := ⟨_, rfl⟩
          obtain ⟨y, hy⟩ : ∃ y, y = u.outs[k] := ⟨_, rfl⟩
          rw [← hx] at g1
          rw [← hy] at g2
          have hxm : x ∈ t.outs := by rw [hx]; exact List.getElem_mem _
          have hgx : t.outs[k]? = some x := by rw [hx]; exact List.getElem?_eq_getElem _
          have hgy : u.outs[k]? = some y := by rw [hy]; exact List.getElem?_eq_getElem _
          obtain ⟨hx1, hr1⟩ := g1
          obtain ⟨hy1, hr2⟩ := g2
          have R1 := Lib.hid hr1
          have R2 := Lib.hid hr2
          have X1 := Lib.hid hx1
          have Y1 := Lib.hid hy1
          have LX := Lib.hid (outL_length x hx1.1)
          have LY := Lib.hid (outL_length y hy1.1)
          clear hx1 hr1 hy1 hr2
          have p0 : 0 ≤ (k : Int) := by omega
          have q0 : (k : Int) < (no : Int) := by omega
          have q1 : (k : Int) < (no' : Int) := by have := HO.out; omega
          have GX := Lib.hid hgx
          have GY := Lib.hid hgy
          have HS1 := Lib.hid hs1
          have HS2 := Lib.hid hs2
          obtain ⟨q, hq⟩ : ∃ q, q = sameOut x y := ⟨_, rfl⟩
          have HQ := Lib.hid hq
          clear hx hy hgx hgy he1 he2 hxm hq hs1 hs2
          go_wp2_with fail
          refine wp_region_below (by kernel_rfl) (by kernel_rfl) wr (Below.refl _ _) ?_
          cases q
          all_goals
            repeat (first | (go_big_quiet_want; refine quiet_load_one 24 (.tmp 63) rfl w.heap.size 2 rfl (.slice (some ⟨b1, o1, none⟩) no co) _ (fun w' hw' => by rw [cell_of_row _ _ _ _ _ _ (row_below F.out hw'), ← HS1.out]; rfl) Try.underlying24 rfl ?_; go_frame; go_big_quiet_on) | (go_big_quiet_want; refine quiet_load_one 24 (.tmp 68) rfl (w.heap.size + 1) 2 rfl (.slice (some ⟨b2, o2, none⟩) no' co') _ (fun w' hw' => by rw [cell_of_row _ _ _ _ _ _ (row_below F'.out hw'), ← HS2.out]; rfl) Try.underlying24 rfl ?_; go_frame; go_big_quiet_on) | (go_big_quiet_want; refine quiet_load_mid 39 (.tmp 66) rfl b1 (o1 + k * 33) rfl (outL x) _ (fun w' hw' => range_below (range_below R1.out B.out) hw') Try.underlying39 rfl (by rw [LX.out]; kernel_rfl) ?_; go_frame; go_big_quiet_on) | (go_big_quiet_want; refine quiet_load_mid 39 (.tmp 71) rfl b2 (o2 + k * 33) rfl (outL y) _ (fun w' hw' => range_below (range_below R2.out B.out) hw') Try.underlying39 rfl (by rw [LY.out]; kernel_rfl) ?_; go_frame; go_big_quiet_on) | go_big_quiet_step ((intro hw'; first | with_reducible exact cls hw' (sameout_any x y X1.out Y1.out _ _ HQ.out) | rfl)))
            refine wpQuiet_nil ?_
            intro w7 hw7
            have F := Lib.hid (row_below F.out hw7)
            have F' := Lib.hid (row_below F'.out hw7)
            have B := Lib.hid (B.out.trans (hw7.mono B.out.size))
            clear hw7 c1
            go_wp2_with fail
          · go_ret
            refine ⟨?_, B.out⟩
            have hne : t ≠ u := fun e => by
              have h1 := GX.out
              rw [e, GY.out] at h1
              have h2 := (sameOut_iff x y).2 (Option.some.inj h1).symm
              rw [← HQ.out] at h2
              cases h2
            rw [NEQ.out hne]
            rfl
          · go_roundw
            case rel =>
              refine ⟨k + 1, by omega, by go_num, fun j hj => ?_, F.out, F'.out, B.out⟩
              by_cases hj2 : j < k
              · exact HP.out j hj2
              · obtain rfl : j = k := by omega
                rw [GX.out, GY.out, (sameOut_iff x y).1 HQ.out.symm]
            case measure => simp [intOf]; omega
        · have hkn : k = no := by omega
          have hge : ¬ (k : Int) < (no : Int) := by omega
          have HE := Lib.hid (list_of_get (l := t.outs) (m := u.outs) (by have := NO.out; have := NO'.out; have := HO.out; omega) (fun j hj => HP.out j (by have := NO.out; omega)))
          clear hkn
          go_wp2_with fail
          clear c1 hge HP hlt2
          go_ret
          refine ⟨?_, B.out⟩
          have e : t = u := by
            have e1 := HEI.out
            have e2 := HE.out
            have e3 : t.ver = u.ver := by rw [← VT.out, ← VU.out, HV.out]
            have e4 : t.time = u.time := by rw [← TT.out, ← TU.out, HTM.out]
            obtain ⟨a, b, c, d⟩ := t
            obtain ⟨a', b', c', d'⟩ := u
            simp only at e1 e2 e3 e4
            subst e1 e2 e3 e4
            rfl
          rw [HB.out.2 e]
          rfl
end Go.Proofs.Ytkabpbclmhmgfaa.Sha
