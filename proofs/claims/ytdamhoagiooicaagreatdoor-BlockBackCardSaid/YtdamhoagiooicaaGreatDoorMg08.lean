/-
  Texts of this proof joined into one file: RefCheck, TxLight, TxSm, CmpPut2, TxBox, ShaCopy, Fill. What each holds, and under which conditions, its own first sentence tells.
-/
import Derived.IntWalk
import Derived.LoopN
import Derived.Great.BuildSlice
import Derived.Test.YtdamhoagiooicaaGreatDoorMg07
import Derived.Test.YtdamhoagiooicaaGreatDoorMg05
import Derived.Test.YtdamhoagiooicaaGreatDoorMg04
import Derived.Test.YtdamhoagiooicaaGreatDoorMg06
import Derived.Test.YtdamhoagiooicaaGreatDoorMg01
/-
  The statements' own CheckTx tells what is amiss first with a transaction. Nothing that was there turns. Conditions: a transaction that lies in memory, its bytes fewer than 2^44.
-/
namespace Go.Proofs.YtdamhoagiooicaaGreatDoor.Sha
open Go Go.RowKit
theorem samePtIn_symm (x y : TIn) : samePtIn x y = samePtIn y x := by
  unfold samePtIn
  rw [Bool.eq_iff_iff]
  simp only [Bool.and_eq_true, decide_eq_true_eq]
  constructor <;> (rintro ⟨a, b⟩; exact ⟨a.symm, b.symm⟩)
theorem twice_true : ∀ {l : List TIn} {a b : Nat} {x y : TIn}, b < a → l[a]? = some x → l[b]? = some y → samePtIn x y = true → twiceB l = true
  | [], _, _, _, _, _, h, _, _ => by simp at h
  | z :: l, a, b, x, y, hlt, ha, hb, hs => by
    obtain ⟨a, rfl⟩ : ∃ c, a = c + 1 := ⟨a - 1, by omega⟩
    rw [List.getElem?_cons_succ] at ha
    cases b with
    | zero =>
      simp at hb
      subst hb
      have : (l.any (samePtIn z)) = true := by
        rw [List.any_eq_true]
        exact ⟨x, List.mem_of_getElem? ha, by rw [samePtIn_symm]; exact hs⟩
      simp [twiceB, this]
    | succ b =>
      rw [List.getElem?_cons_succ] at hb
      simp [twiceB, twice_true (by omega) ha hb hs]
theorem twice_false : ∀ {l : List TIn}, (∀ (a b : Nat) (x y : TIn), b < a → l[a]? = some x → l[b]? = some y → samePtIn x y = false) → twiceB l = false
  | [], _ => rfl
  | z :: l, h => by
    have h1 : twiceB l = false := twice_false (fun a b x y hab ha hb => h (a + 1) (b + 1) x y (by omega) (by rw [List.getElem?_cons_succ]; exact ha) (by rw [List.getElem?_cons_succ]; exact hb))
    have h2 : (l.any (samePtIn z)) = false := by
      rw [List.any_eq_false]
      intro x hx
      obtain ⟨i, hi⟩ := List.getElem?_of_mem hx
      have := h (i + 1) 0 x z (by omega) (by rw [List.getElem?_cons_succ]; exact hi) rfl
      rw [samePtIn_symm, this]
      simp
    simp [twiceB, h1, h2]
theorem any_false {α : Type} {l : List α} {p : α → Bool} (h : ∀ (j : Nat) (x : α), l[j]? = some x → p x = false) : l.any p = false := by
  rw [List.any_eq_false]
  intro x hx
  obtain ⟨j, hj⟩ := List.getElem?_of_mem hx
  rw [h j x hj]
  simp
theorem any_true {α : Type} {l : List α} {p : α → Bool} {j : Nat} {x : α} (h : l[j]? = some x) (hp : p x = true) : l.any p = true := List.any_eq_true.2 ⟨x, List.mem_of_getElem? h, hp⟩
def CkInv (n : Nat) (P : Nat → Prop) (w1 : World) (i : Value) (wr : World) : Prop := ∃ k : Nat, k ≤ n ∧ i = .int .i64 k ∧ P k ∧ Below w1.heap.size w1 wr
theorem chk_many {t : TTx} (h : t.ins.length = 0 ∨ 50 < t.ins.length ∨ t.outs.length = 0 ∨ 50 < t.outs.length) : checkN t = 104 := by unfold checkN; rw [if_pos h]
theorem chk_rest {t : TTx} (h : ¬ (t.ins.length = 0 ∨ 50 < t.ins.length ∨ t.outs.length = 0 ∨ 50 < t.outs.length)) : checkN t =
    if 4000 < (txB t).length then 103 else if t.ins.any (fun x => decide (80 < x.key.length)) then 114 else if sumIs (t.outs.map (·.val)) = false then 105 else if twiceB t.ins then 106
    else if baseB t then (if t.ins.any (fun x => decide (x.key.length < 4)) then 107 else 0) else if t.ins.any isNullIn then 107 else 0 := by unfold checkN; rw [if_neg h]
set_option maxHeartbeats 4000000 in
set_option maxRecDepth 100000 in
theorem rcheck_any (t : TTx) (v : Value) (w : World) (h1 : TxAt w v t) (hli : (insB t.ins).length ≤ 17592186044416) (hlo : (outsB t.outs).length ≤ 17592186044416) (hni : t.ins.length ≤ 9223372036854775807) (hno : t.outs.length ≤ 9223372036854775807) (hoo : OutsOk t.outs) (c : Nat) (hc : c = checkN t) :
    Calls Tryz.prog 58 #[v] w fun e w' => e = .returned (.int .i64 (c : Int)) ∧ Below w.heap.size w w' := by
  have h1' := h1
  obtain ⟨ht0, iv, ov, rfl, hti, hto⟩ := h1
  obtain ⟨si, ci, rfl, hci, hti⟩ := hti
  obtain ⟨so, co, rfl, hco, hto⟩ := hto
  have HTI := Lib.hid hti
  have HLI := Lib.hid hli
  have HLO := Lib.hid hlo
  have HNI := Lib.hid hni
  have HNO := Lib.hid hno
  have HOO := Lib.hid hoo
  have HC := Lib.hid hc
  obtain ⟨ni, hn1⟩ : ∃ ni, ni = t.ins.length := ⟨_, rfl⟩
  obtain ⟨no, hn2⟩ : ∃ no, no = t.outs.length := ⟨_, rfl⟩
  obtain ⟨vt, hvt⟩ : ∃ vt, vt = t.ver := ⟨_, rfl⟩
  obtain ⟨tt, htt⟩ : ∃ tt, tt = t.time := ⟨_, rfl⟩
  rw [← hn1] at hni
  rw [← hn2] at hno
  have NI := Lib.hid hn1
  have NO := Lib.hid hn2
  simp only [txL, ← hn1, ← hn2, ← hvt, ← htt] at h1' ⊢
  have H1 := Lib.hid h1'
  obtain ⟨Z, hZ⟩ : ∃ Z : List UInt8, Z = List.replicate 32 0 := ⟨_, rfl⟩
  obtain ⟨M, hM⟩ : ∃ M : Nat, M = 4294967295 := ⟨_, rfl⟩
  have hZl : Z.length = 32 := by rw [hZ]; rfl
  have HZL := Lib.hid hZl
  have NR : Hid (∀ w, Calls Tryz.prog 99 #[] w fun e w' => e = .returned (.agg (ptL Z M).toArray) ∧ Below w.heap.size w w') := fun w => by rw [hZ, hM]; exact rnull_any w
  have HZM : Hid (Z = List.replicate 32 0 ∧ M = 4294967295) := ⟨hZ, hM⟩
  clear hn1 hn2 hci hco hvt htt ht0 hti hto hli hlo h1' hZ hM hZl hc hoo
  go_enter Tryz.func58, Tryz.ntmps58
  go_upto_region 1 with fail
  have F := Lib.hid (heap_alloc_new w (.cells [nV vt, .slice si ni ci, .slice so no co, nV tt].toArray 66 (0, 0)))
  have B0 := Lib.hid ((Below.refl w.heap.size w).alloc (Nat.le_refl _) (.cells [nV vt, .slice si ni ci, .slice so no co, nV tt].toArray 66 (0, 0)))
  generalize hw1 : World.alloc _ _ = w1
  have e1 : w.alloc (.cells [nV vt, .slice si ni ci, .slice so no co, nV tt].toArray 66 (0, 0)) = w1 := hw1
  rw [e1] at F B0
  clear hw1 e1
  have BOX : Hid (∀ w', Below w1.heap.size w1 w' → ∀ j v, [nV vt, .slice si ni ci, .slice so no co, nV tt][j]? = some v → w'.cell? ⟨w.heap.size, j, none⟩ = some v) := fun w' hw' j v hj => by
    rw [cell_of_row _ _ _ _ _ _ (row_below F.out hw'), List.getElem?_toArray]
    exact hj
  have c1 : w1.cell? ⟨w.heap.size, 1, none⟩ = some (.slice si ni ci) := BOX.out w1 (Below.refl _ _) 1 _ rfl
  have c2 : w1.cell? ⟨w.heap.size, 2, none⟩ = some (.slice so no co) := BOX.out w1 (Below.refl _ _) 2 _ rfl
  by_cases hi0 : ni = 0
  · have e1 : ((ni : Int) == 0) = true := by rw [beq_iff_eq]; omega
    have HQ : Hid (c = 104) := by show _ = _; rw [HC.out]; exact chk_many (.inl (by have := NI.out; omega))
    clear hi0
    go_wp2_with fail
    go_ret
    exact ⟨by rw [HQ.out]; rfl, B0.out⟩
  have e1 : ((ni : Int) == 0) = false := by rw [beq_eq_false_iff_ne]; omega
  by_cases hi5 : 50 < ni
  · have e2 : (50 : Int) < (ni : Int) := by omega
    have e2' : decide ((50 : Int) < (ni : Int)) = true := decide_eq_true e2
    have HQ : Hid (c = 104) := by show _ = _; rw [HC.out]; exact chk_many (.inr (.inl (by have := NI.out; omega)))
    clear hi0 hi5
    go_wp2_with fail
    go_ret
    exact ⟨by rw [HQ.out]; rfl, B0.out⟩
  have e2 : ¬ (50 : Int) < (ni : Int) := by omega
  have e2' : decide ((50 : Int) < (ni : Int)) = false := decide_eq_false e2
  by_cases ho0 : no = 0
  · have e3 : ((no : Int) == 0) = true := by rw [beq_iff_eq]; omega
    have HQ : Hid (c = 104) := by show _ = _; rw [HC.out]; exact chk_many (.inr (.inr (.inl (by have := NO.out; omega))))
    clear hi0 hi5 ho0
    go_wp2_with fail
    go_ret
    exact ⟨by rw [HQ.out]; rfl, B0.out⟩
  have e3 : ((no : Int) == 0) = false := by rw [beq_eq_false_iff_ne]; omega
  by_cases ho5 : 50 < no
  · have e4 : (50 : Int) < (no : Int) := by omega
    have e4' : decide ((50 : Int) < (no : Int)) = true := decide_eq_true e4
    have HQ : Hid (c = 104) := by show _ = _; rw [HC.out]; exact chk_many (.inr (.inr (.inr (by have := NO.out; omega))))
    clear hi0 hi5 ho0 ho5
    go_wp2_with fail
    go_ret
    exact ⟨by rw [HQ.out]; rfl, B0.out⟩
  have e4 : ¬ (50 : Int) < (no : Int) := by omega
  have e4' : decide ((50 : Int) < (no : Int)) = false := decide_eq_false e4
  have HC2 : Hid (c = if 4000 < (txB t).length then 103 else if t.ins.any (fun x => decide (80 < x.key.length)) then 114 else if sumIs (t.outs.map (·.val)) = false then 105 else if twiceB t.ins then 106
    else if baseB t then (if t.ins.any (fun x => decide (x.key.length < 4)) then 107 else 0) else if t.ins.any isNullIn then 107 else 0) := by
    show _ = _
    rw [HC.out]
    exact chk_rest (by have := NI.out; have := NO.out; omega)
  have HN50 : Hid (0 < ni ∧ ni ≤ 50 ∧ 0 < no ∧ no ≤ 50) := ⟨by omega, by omega, by omega, by omega⟩
  clear hi0 hi5 ho0 ho5 HC
  go_wp2_with ((with_reducible show wpList _ _ _ _ _ _); refine wpList_load_row rfl 66 (.tmp 1) rfl w.heap.size rfl 66 [nV vt, .slice si ni ci, .slice so no co, nV tt].toArray (0, 0) _ F.out Tryz.underlying66 rfl (by kernel_rfl) ?_; go_frame)
  refine (rsize_any t _ w1 (H1.out.below B0.out) HLI.out HLO.out HNI.out HNO.out).mono ?_
  rintro e w2 ⟨rfl, hb2⟩
  have B2 := Lib.hid hb2
  obtain ⟨sz, hsz⟩ : ∃ sz, sz = (txB t).length := ⟨_, rfl⟩
  rw [← hsz]
  rw [← hsz] at HC2
  clear hb2 c1 c2 e1 e2 e2' e3 e4 e4' hsz
  by_cases h4 : 4000 < sz
  · have e1 : (4000 : Int) < (sz : Int) := by omega
    have HQ : Hid (c = 103) := by show _ = _; rw [HC2.out, if_pos h4]
    clear h4
    go_wp2_with fail
    go_ret
    exact ⟨by rw [HQ.out]; rfl, B0.out.trans (B2.out.mono B0.out.size)⟩
  have e1 : ¬ (4000 : Int) < (sz : Int) := by omega
  have hc3 := HC2.out
  rw [if_neg h4] at hc3
  have HC3 := Lib.hid hc3
  clear hc3
  clear h4 HC2
  go_wp2_with fail
  clear e1
  go_loopw [3] (fun i wr => CkInv ni (fun k => ∀ (j : Nat) x, j < k → t.ins[j]? = some x → x.key.length ≤ 80) w1 i wr) (fun i _ => ni - (intOf i).toNat)
  case atStart => exact ⟨0, by omega, rfl, fun j x hj => by omega, B2.out⟩
  case round =>
    clear B2
    obtain ⟨k, hk, rfl, hp, B⟩ := hrel
    have B := Lib.hid B
    have HP := Lib.hid hp
    have c1 : wr.cell? ⟨w.heap.size, 1, none⟩ = some (.slice si ni ci) := BOX.out wr B.out 1 _ rfl
    clear hp
    by_cases hlt : k < ni
    · have hkx : k < t.ins.length := by have := NI.out; omega
      obtain ⟨b1, o1, hs1, he1⟩ := HTI.out (by omega)
      have g1 := he1 k _ (List.getElem?_eq_getElem hkx)
      obtain ⟨x, hx⟩ : ∃ x, x = t.ins[k] := ⟨_, rfl⟩
      rw [← hx] at g1
      have hgx : t.ins[k]? = some x := by rw [hx]; exact List.getElem?_eq_getElem _
      obtain ⟨hx1, kx, hkx2, hr1⟩ := g1
      obtain ⟨sx, cx, hkv⟩ := hkx2.2
      have ck : wr.cell? ⟨b1, o1 + k * 35 + 33, none⟩ = some (.slice sx x.key.length cx) := by
        rw [← hkv]
        exact in_key hx1.1 (range_below (range_below hr1 B0.out) B.out)
      obtain ⟨kl, hkl⟩ : ∃ kl, kl = x.key.length := ⟨_, rfl⟩
      rw [← hkl] at ck
      rw [hs1] at c1
      have p0 : 0 ≤ (k : Int) := by omega
      have q0 : (k : Int) < (ni : Int) := by omega
      have GX := Lib.hid hgx
      have KL := Lib.hid hkl
      clear hx hgx he1 hs1 hx1 hkx2 hr1 hkv hkl
      by_cases h80 : 80 < kl
      · have hle : (80 : Int) < (kl : Int) := by omega
        have HQ : Hid (c = 114) := by
          show _ = _
          rw [HC3.out, if_pos (any_true GX.out (by rw [← KL.out]; exact decide_eq_true h80))]
        clear h80
        go_wp2_with fail
        go_ret
        exact ⟨by rw [HQ.out]; rfl, B0.out.trans (B.out.mono B0.out.size)⟩
      · have hle : ¬ (80 : Int) < (kl : Int) := by omega
        have H80 := Lib.hid h80
        clear h80
        go_wp2_with fail
        go_roundw
        case rel =>
          refine ⟨k + 1, by omega, by go_num, fun j y hj hy => ?_, B.out⟩
          by_cases hj2 : j < k
          · exact HP.out j y hj2 hy
          · obtain rfl : j = k := by omega
            have := Option.some.inj (GX.out.symm.trans hy)
            subst this
            rw [← KL.out]
            exact Nat.le_of_not_lt H80.out
        case measure => simp [intOf]; omega
    · have hkn : k = ni := by omega
      have hge : ¬ (k : Int) < (ni : Int) := by omega
      have hc4 := HC3.out
      rw [if_neg (by rw [any_false (fun j x hj => decide_eq_false (by have := HP.out j x (by have := (List.getElem?_eq_some_iff.1 hj).1; have := NI.out; omega) hj; omega))]; simp)] at hc4
      have HC4 := Lib.hid hc4
      clear hc4
      clear hkn HC3 HP hlt
      go_wp2_with ((with_reducible show wpList _ _ _ _ _ _); refine wpList_load_row rfl 66 (.tmp 1) rfl w.heap.size rfl 66 [nV vt, .slice si ni ci, .slice so no co, nV tt].toArray (0, 0) _ (row_below F.out B.out) Tryz.underlying66 rfl (by kernel_rfl) ?_; go_frame)
      refine (vals_any t _ wr ((H1.out.below B0.out).below B.out) (by have := NO.out; have := HN50.out; omega)).mono ?_
      rintro e w3 ⟨v3, rfl, hs3, hb3⟩
      have B := Lib.hid (B.out.trans (hb3.mono B.out.size))
      have S3 := Lib.hid hs3
      clear hs3 hb3 c1 hge
      go_wp2_with fail
      refine (sum_r _ v3 w3 S3.out (by have := NO.out; have := HN50.out; rw [List.length_map]; omega) (fun j => by
        by_cases hj : j < (t.outs.map (·.val)).length
        · rw [List.getD, List.getElem?_eq_getElem hj, List.getElem_map]
          exact (HOO.out _ (List.getElem_mem _)).2
        · rw [List.getD, List.getElem?_eq_none (by omega)]
          exact Nat.zero_le _)).mono ?_
      rintro e w3' ⟨rfl, rfl⟩
      clear S3
      by_cases hsum : (t.outs.map (·.val)).sum ≤ most
      case neg =>
        rw [sumV_no hsum]
        have HQ : Hid (c = 105) := by show _ = _; rw [HC4.out, if_pos (by rw [sumIs]; exact decide_eq_false hsum)]
        clear hsum
        go_wp2_with fail
        go_ret
        exact ⟨by rw [HQ.out]; rfl, B0.out.trans (B.out.mono B0.out.size)⟩
      rw [sumV_yes hsum]
      have hc5 := HC4.out
      rw [if_neg (by rw [sumIs, decide_eq_true hsum]; simp)] at hc5
      have HC5 := Lib.hid hc5
      clear hc5
      obtain ⟨ss, hss⟩ : ∃ ss, ss = (t.outs.map (·.val)).sum := ⟨_, rfl⟩
      rw [← hss]
      clear HC4 hsum hss
      go_wp2_with fail
      go_loopw [6] (fun i wr => CkInv ni (fun k => ∀ (a b : Nat) (x y : TIn), a < k → b < a → t.ins[a]? = some x → t.ins[b]? = some y → samePtIn x y = false) w1 i wr) (fun i _ => ni - (intOf i).toNat)
      case atStart => exact ⟨0, by omega, rfl, fun a b x y ha => by omega, B.out⟩
      case round =>
        clear B
        obtain ⟨k, hk, rfl, hp, B⟩ := hrel
        have B := Lib.hid B
        have HP := Lib.hid hp
        have c1 : wr.cell? ⟨w.heap.size, 1, none⟩ = some (.slice si ni ci) := BOX.out wr B.out 1 _ rfl
        clear hp
        by_cases hlt : k < ni
        · have hkx : k < t.ins.length := by have := NI.out; omega
          obtain ⟨b1, o1, hs1, he1⟩ := HTI.out (by omega)
          have g1 := he1 k _ (List.getElem?_eq_getElem hkx)
          obtain ⟨x, hx⟩ : ∃ x, x = t.ins[k] := ⟨_, rfl⟩
          rw [← hx] at g1
          have hgx : t.ins[k]? = some x := by rw [hx]; exact List.getElem?_eq_getElem _
          obtain ⟨hx1, kx, hkx2, hr1⟩ := g1
          have RX := Lib.hid (in_pt (range_below hr1 B0.out))
          have LX := Lib.hid (show (ptL x.h x.n).length = 33 by rw [ptL_length, hx1.1])
          have XH := Lib.hid hx1.1
          have GX := Lib.hid hgx
          have HE1 := Lib.hid he1
          have HS1 := Lib.hid hs1
          have p0 : 0 ≤ (k : Int) := by omega
          have q0 : (k : Int) < (ni : Int) := by omega
          clear hx hgx he1 hs1 hx1 hkx2 hr1
          go_wp2_with fail
          clear c1
          go_loopw [7] (fun i wr => CkInv k (fun j => ∀ (b : Nat) (y : TIn), b < j → t.ins[b]? = some y → samePtIn x y = false) w1 i wr) (fun i _ => k - (intOf i).toNat)
          case atStart => exact ⟨0, by omega, rfl, fun b y hb => by omega, B.out⟩
          case round =>
            clear B
            obtain ⟨j, hj, rfl, hq, B⟩ := hrel
            have B := Lib.hid B
            have HQJ := Lib.hid hq
            clear hq
            by_cases hjlt : j < k
            · have hjx : j < t.ins.length := by have := NI.out; omega
              have g2 := HE1.out j _ (List.getElem?_eq_getElem hjx)
              obtain ⟨y, hy⟩ : ∃ y, y = t.ins[j] := ⟨_, rfl⟩
              rw [← hy] at g2
              have hgy : t.ins[j]? = some y := by rw [hy]; exact List.getElem?_eq_getElem _
              obtain ⟨hy1, ky, hky2, hr2⟩ := g2
              have RY := Lib.hid (in_pt (range_below hr2 B0.out))
              have LY := Lib.hid (show (ptL y.h y.n).length = 33 by rw [ptL_length, hy1.1])
              have YH := Lib.hid hy1.1
              have GY := Lib.hid hgy
              have j0 : 0 ≤ (j : Int) := by omega
              have j1 : (j : Int) < (k : Int) := by omega
              have j2 : (j : Int) < (ni : Int) := by omega
              obtain ⟨q, hq⟩ : ∃ q, q = (decide (x.h = y.h) && decide (x.n = y.n)) := ⟨_, rfl⟩
              have HSQ : Hid (q = samePtIn x y) := hq
              have HQ := Lib.hid hq
              clear hy hgy hy1 hky2 hr2 hq
              go_wp2_with fail
              refine wp_region_below (by kernel_rfl) (by kernel_rfl) wr (Below.refl _ _) ?_
              cases q
              all_goals
                repeat (first | (go_big_quiet_want; (first | refine quiet_load_one 63 (.tmp 69) rfl w.heap.size 1 rfl (.slice (some ⟨b1, o1, none⟩) ni ci) _ (fun w' hw' => by rw [BOX.out w' (B.out.trans (hw'.mono B.out.size)) 1 _ rfl, HS1.out]) Tryz.underlying63 rfl ?_ | refine quiet_load_one 63 (.tmp 75) rfl w.heap.size 1 rfl (.slice (some ⟨b1, o1, none⟩) ni ci) _ (fun w' hw' => by rw [BOX.out w' (B.out.trans (hw'.mono B.out.size)) 1 _ rfl, HS1.out]) Tryz.underlying63 rfl ?_ | refine quiet_load_mid 68 (.tmp 73) rfl b1 (o1 + k * 35) rfl (ptL x.h x.n) _ (fun w' hw' => range_below (range_below RX.out B.out) hw') Tryz.underlying68 rfl (by rw [LX.out]; kernel_rfl) ?_ | refine quiet_load_mid 68 (.tmp 79) rfl b1 (o1 + j * 35) rfl (ptL y.h y.n) _ (fun w' hw' => range_below (range_below RY.out B.out) hw') Tryz.underlying68 rfl (by rw [LY.out]; kernel_rfl) ?_); go_frame; go_big_quiet_on) | go_big_quiet_step ((intro hw'; first | with_reducible exact cls hw' (samept_any x.h y.h x.n y.n XH.out YH.out _ HQ.out _) | rfl)))
                refine wpQuiet_nil ?_
                intro w7 hw7
                have B := Lib.hid (B.out.trans (hw7.mono B.out.size))
                clear hw7
                go_wp2_with fail
              · go_roundw
                case rel =>
                  refine ⟨j + 1, by omega, by go_num, fun b z hb hz => ?_, B.out⟩
                  by_cases hb2 : b < j
                  · exact HQJ.out b z hb2 hz
                  · obtain rfl : b = j := by omega
                    have := Option.some.inj (GY.out.symm.trans hz)
                    subst this
                    exact HSQ.out.symm
                case measure => simp [intOf]; omega
              · go_ret
                refine ⟨?_, B0.out.trans (B.out.mono B0.out.size)⟩
                rw [HC5.out, if_pos (twice_true hjlt GX.out GY.out HSQ.out.symm)]
                rfl
            · have hjk : j = k := by omega
              have hjge : ¬ (j : Int) < (k : Int) := by omega
              have HQK := HQJ.out
              rw [hjk] at HQK
              have HQK := Lib.hid HQK
              clear hjk hjlt
              go_wp2_with fail
              go_roundw
              case rel =>
                refine ⟨k + 1, by omega, by go_num, fun a b u z ha hb hu hz => ?_, B.out⟩
                by_cases ha2 : a < k
                · exact HP.out a b u z ha2 hb hu hz
                · obtain rfl : a = k := by omega
                  have := Option.some.inj (GX.out.symm.trans hu)
                  subst this
                  exact HQK.out b z hb hz
              case measure => simp [intOf]; omega
        · have hkn : k = ni := by omega
          have hge : ¬ (k : Int) < (ni : Int) := by omega
          have hc6 := HC5.out
          rw [if_neg (by rw [twice_false (fun a b x y hab ha hb => HP.out a b x y (by have := (List.getElem?_eq_some_iff.1 ha).1; have := NI.out; omega) hab ha hb)]; simp)] at hc6
          have HC6 := Lib.hid hc6
          clear hc6
          clear hkn HC5 HP hlt
          go_wp2_with ((with_reducible show wpList _ _ _ _ _ _); refine wpList_load_row rfl 66 (.tmp 1) rfl w.heap.size rfl 66 [nV vt, .slice si ni ci, .slice so no co, nV tt].toArray (0, 0) _ (row_below F.out B.out) Tryz.underlying66 rfl (by kernel_rfl) ?_; go_frame)
          refine (rbase_any t _ wr ((H1.out.below B0.out).below B.out) _ rfl).mono ?_
          rintro e w4 ⟨rfl, hb4⟩
          have B := Lib.hid (B.out.trans (hb4.mono B.out.size))
          clear hb4 c1 hge
          obtain ⟨bb, hbb⟩ : ∃ bb, bb = baseB t := ⟨_, rfl⟩
          rw [← hbb] at HC6 ⊢
          have HBB := Lib.hid hbb
          clear hbb
          obtain ⟨b1, o1, hs1, he1⟩ := HTI.out (by have := NI.out; have := HN50.out; omega)
          have HE1 := Lib.hid he1
          have HS1 := Lib.hid hs1
          clear he1 hs1
          cases bb
          · have hc7 := HC6.out
            rw [if_neg (by simp)] at hc7
            have HC7 := Lib.hid hc7
            clear hc7
            clear HC6
            go_wp2_with fail
            go_loopw [8] (fun i wr => CkInv ni (fun k => ∀ (j : Nat) x, j < k → t.ins[j]? = some x → isNullIn x = false) w1 i wr) (fun i _ => ni - (intOf i).toNat)
            case atStart => exact ⟨0, by omega, rfl, fun j x hj => by omega, B.out⟩
            case round =>
              clear B
              obtain ⟨k, hk, rfl, hp, B⟩ := hrel
              have B := Lib.hid B
              have HP := Lib.hid hp
              have c1 : wr.cell? ⟨w.heap.size, 1, none⟩ = some (.slice si ni ci) := BOX.out wr B.out 1 _ rfl
              clear hp
              by_cases hlt : k < ni
              · have hkx : k < t.ins.length := by have := NI.out; omega
                have g1 := HE1.out k _ (List.getElem?_eq_getElem hkx)
                obtain ⟨x, hx⟩ : ∃ x, x = t.ins[k] := ⟨_, rfl⟩
                rw [← hx] at g1
                have hgx : t.ins[k]? = some x := by rw [hx]; exact List.getElem?_eq_getElem _
                obtain ⟨hx1, kx, hkx2, hr1⟩ := g1
                have RX := Lib.hid (in_pt (range_below hr1 B0.out))
                have LX := Lib.hid (show (ptL x.h x.n).length = 33 by rw [ptL_length, hx1.1])
                have XH := Lib.hid hx1.1
                have GX := Lib.hid hgx
                have p0 : 0 ≤ (k : Int) := by omega
                have q0 : (k : Int) < (ni : Int) := by omega
                obtain ⟨q, hq⟩ : ∃ q, q = (decide (x.h = Z) && decide (x.n = M)) := ⟨_, rfl⟩
                have HSQ : Hid (q = isNullIn x) := by show _ = _; rw [hq, isNullIn, HZM.out.1, HZM.out.2]
                have HQ := Lib.hid hq
                clear hx hgx hx1 hkx2 hr1 hq
                go_wp2_with fail
                clear c1
                refine wp_region_below (by kernel_rfl) (by kernel_rfl) wr (Below.refl _ _) ?_
                cases q
                all_goals
                  repeat (first | (go_big_quiet_want; (first | refine quiet_load_one 63 (.tmp 98) rfl w.heap.size 1 rfl (.slice (some ⟨b1, o1, none⟩) ni ci) _ (fun w' hw' => by rw [BOX.out w' (B.out.trans (hw'.mono B.out.size)) 1 _ rfl, HS1.out]) Tryz.underlying63 rfl ?_ | refine quiet_load_mid 68 (.tmp 102) rfl b1 (o1 + k * 35) rfl (ptL x.h x.n) _ (fun w' hw' => range_below (range_below RX.out B.out) hw') Tryz.underlying68 rfl (by rw [LX.out]; kernel_rfl) ?_); go_frame; go_big_quiet_on) | go_big_quiet_step ((intro hw'; first | with_reducible exact cls hw' (NR.out _) | with_reducible exact cls hw' (samept_any x.h Z x.n M XH.out HZL.out _ HQ.out _) | rfl)))
                  refine wpQuiet_nil ?_
                  intro w7 hw7
                  have B := Lib.hid (B.out.trans (hw7.mono B.out.size))
                  clear hw7
                  go_wp2_with fail
                · go_roundw
                  case rel =>
                    refine ⟨k + 1, by omega, by go_num, fun j z hj hz => ?_, B.out⟩
                    by_cases hj2 : j < k
                    · exact HP.out j z hj2 hz
                    · obtain rfl : j = k := by omega
                      have := Option.some.inj (GX.out.symm.trans hz)
                      subst this
                      exact HSQ.out.symm
                  case measure => simp [intOf]; omega
                · go_ret
                  refine ⟨?_, B0.out.trans (B.out.mono B0.out.size)⟩
                  rw [HC7.out, if_pos (any_true GX.out HSQ.out.symm)]
                  rfl
              · have hge : ¬ (k : Int) < (ni : Int) := by omega
                have HQ : Hid (c = 0) := by
                  show _ = _
                  rw [HC7.out, if_neg (by rw [any_false (fun j x hj => HP.out j x (by have := (List.getElem?_eq_some_iff.1 hj).1; have := NI.out; omega) hj)]; simp)]
                clear hlt
                go_wp2_with fail
                go_ret
                exact ⟨by rw [HQ.out]; rfl, B0.out.trans (B.out.mono B0.out.size)⟩
          · have hc7 := HC6.out
            rw [if_pos rfl] at hc7
            have HC7 := Lib.hid hc7
            clear hc7
            clear HC6
            have h1n : t.ins.length = 1 := by
              by_cases h : t.ins.length = 1
              · exact h
              · have := base_not h
                rw [← HBB.out] at this
                cases this
            have hn1 : ni = 1 := by have := NI.out; omega
            have g1 := HE1.out 0 _ (List.getElem?_eq_getElem (by omega))
            obtain ⟨x, hx⟩ : ∃ x, x = t.ins[0]'(by omega) := ⟨_, rfl⟩
            rw [← hx] at g1
            have hgx : t.ins[0]? = some x := by rw [hx]; exact List.getElem?_eq_getElem _
            obtain ⟨hx1, kx, hkx2, hr1⟩ := g1
            obtain ⟨sx, cx, hkv⟩ := hkx2.2
            have ck : w4.cell? ⟨b1, o1 + 33, none⟩ = some (.slice sx x.key.length cx) := by
              rw [← hkv]
              have := in_key hx1.1 (range_below (range_below hr1 B0.out) B.out)
              rw [Nat.zero_mul, Nat.add_zero] at this
              exact this
            have c1 : w4.cell? ⟨w.heap.size, 1, none⟩ = some (.slice (some ⟨b1, o1, none⟩) ni ci) := by rw [BOX.out w4 B.out 1 _ rfl, HS1.out]
            obtain ⟨kl, hkl⟩ : ∃ kl, kl = x.key.length := ⟨_, rfl⟩
            rw [← hkl] at ck
            have q0 : (0 : Int) < (ni : Int) := by omega
            have hany : (t.ins.any fun x => decide (x.key.length < 4)) = decide (kl < 4) := by
              obtain ⟨a, l, b, c⟩ := t
              simp only at h1n hgx
              match l, h1n, hgx with
              | [y], _, hg =>
                obtain rfl : y = x := by simpa using hg
                simp [hkl]
            have hc8 := HC7.out
            rw [hany] at hc8
            have HC7 := Lib.hid hc8
            clear hc8
            clear hx hgx hx1 hkx2 hr1 hkv hkl h1n hany
            by_cases h4 : kl < 4
            · have hle : (kl : Int) < 4 := by omega
              have HQ : Hid (c = 107) := by show _ = _; rw [HC7.out, if_pos (decide_eq_true h4)]
              clear h4 hn1
              go_wp2_with fail
              go_ret
              exact ⟨by rw [HQ.out]; rfl, B0.out.trans (B.out.mono B0.out.size)⟩
            · have hle : ¬ (kl : Int) < 4 := by omega
              have HQ : Hid (c = 0) := by show _ = _; rw [HC7.out, if_neg (by simpa using h4)]
              clear h4 hn1
              go_wp2_with fail
              go_ret
              exact ⟨by rw [HQ.out]; rfl, B0.out.trans (B.out.mono B0.out.size)⟩
end Go.Proofs.YtdamhoagiooicaaGreatDoor.Sha

/-
  The statements' own 'light' tells whether a transaction is small; their own Base whether it makes coins. Nothing that was there turns. Condition: a transaction that lies in memory.
-/
namespace Go.Proofs.YtdamhoagiooicaaGreatDoor.Sha
open Go Go.RowKit
/-- Small enough. -/
def lightB (t : TTx) : Bool := decide (t.ins.length ≤ 60) && (decide (t.outs.length ≤ 60) && t.ins.all fun x => decide (x.key.length ≤ 100))
theorem all_take {α : Type} {l : List α} {p : α → Bool} (h : ∀ (j : Nat) (x : α), l[j]? = some x → p x = true) : l.all p = true := by
  rw [List.all_eq_true]
  intro x hx
  obtain ⟨j, hj⟩ := List.getElem?_of_mem hx
  exact h j x hj
def LitInv (n g : Nat) (t : TTx) (ct : Array Value) (w : World) (i : Value) (wr : World) : Prop :=
  ∃ k : Nat, k ≤ n ∧ i = .int .i64 k ∧ (∀ j x, j < k → t.ins[j]? = some x → x.key.length ≤ 100) ∧ wr.heap[g]? = some (.cells ct 66 (0, 0)) ∧ Below w.heap.size w wr
end Go.Proofs.YtdamhoagiooicaaGreatDoor.Sha

/-
  What package tx is shown to answer, call by call, as hypotheses for the statements' walks. A transaction of a few inputs and outputs is small. No conditions.
-/
namespace Go.Proofs.YtdamhoagiooicaaGreatDoor.Sha
open Go Go.RowKit
/-- The errors that package tx tells are there. -/
def Er8 (w : World) (E : Nat → Addr) : Prop := ∀ i, i < 7 ∨ i = 13 → w.cell? ⟨errG.getD i 0, 0, none⟩ = some (errV E (i + 1))
theorem Er8.below {w w' : World} {E : Nat → Addr} (h : Er8 w E) (hb : Below w.heap.size w w') : Er8 w' E := fun i hi => by
  rw [hb.cell (p := ⟨errG.getD i 0, 0, none⟩) (World.block_lt_of_cell? w _ (h i hi))]
  exact h i hi
theorem Errs.e8 {w : World} {E : Nat → Addr} (h : Errs w E) : Er8 w E := fun i hi => (h.1 i (by omega)).1
/-- The errors that package tx's Check tells. -/
def Er6 (w : World) (E : Nat → Addr) : Prop := ∀ i, (2 ≤ i ∧ i < 7) ∨ i = 13 → w.cell? ⟨errG.getD i 0, 0, none⟩ = some (errV E (i + 1))
theorem Er6.below {w w' : World} {E : Nat → Addr} (h : Er6 w E) (hb : Below w.heap.size w w') : Er6 w' E := fun i hi => by
  rw [hb.cell (p := ⟨errG.getD i 0, 0, none⟩) (World.block_lt_of_cell? w _ (h i hi))]
  exact h i hi
theorem Er8.e6 {w : World} {E : Nat → Addr} (h : Er8 w E) : Er6 w E := fun i hi => h i (by omega)
/-- The errors that package block's Check tells. -/
def ErB (w : World) (E : Nat → Addr) : Prop := ∀ i, (2 ≤ i ∧ i < 8) ∨ i = 13 ∨ i = 21 → w.cell? ⟨errG.getD i 0, 0, none⟩ = some (errV E (i + 1))
theorem ErB.below {w w' : World} {E : Nat → Addr} (h : ErB w E) (hb : Below w.heap.size w w') : ErB w' E := fun i hi => by
  rw [hb.cell (p := ⟨errG.getD i 0, 0, none⟩) (World.block_lt_of_cell? w _ (h i hi))]
  exact h i hi
theorem ErB.e6 {w : World} {E : Nat → Addr} (h : ErB w E) : Er6 w E := fun i hi => h i (by omega)
theorem Errs.eB {w : World} {E : Nat → Addr} (h : Errs w E) : ErB w E := fun i hi => (h.1 i (by omega)).1
theorem Er8.er {w : World} {E : Nat → Addr} (h : Er8 w E) : Er w E := ⟨h 0 (by omega), h 1 (by omega), h 3 (by omega)⟩
/-- Few enough. -/
def TxSmall (t : TTx) : Prop := TxCame t ∧ t.ins.length ≤ 1000 ∧ t.outs.length ≤ 1000 ∧ KeysLe t.ins 100000
theorem insB_bound : ∀ (l : List TIn) {n : Nat}, InsOk l → KeysLe l n → (insB l).length ≤ (49 + n) * l.length
  | [], _, _, _ => by simp [insB]
  | x :: l, n, h, hk => by
    have ih := insB_bound l (fun z hz => h z (List.mem_cons_of_mem _ hz)) (fun z hz => hk z (List.mem_cons_of_mem _ hz))
    have h1 := inB_length x (h x List.mem_cons_self)
    have h2 := lenN_bd x.key.length
    have h3 := hk x List.mem_cons_self
    simp only [insB] at ih
    simp only [insB, List.flatMap_cons, List.length_append, List.length_cons, h1, Nat.mul_add, Nat.mul_one]
    omega
theorem TxSmall.ins0 {t : TTx} (h : TxSmall t) : (insB t.ins).length ≤ 200000000 := by
  have h1 := insB_bound t.ins h.1.2.1 h.2.2.2
  have h2 := h.2.1
  have : (49 + 100000) * t.ins.length ≤ (49 + 100000) * 1000 := Nat.mul_le_mul_left _ h2
  omega
theorem TxSmall.ins {t : TTx} (h : TxSmall t) : (insB t.ins).length ≤ 17592186044416 := Nat.le_trans h.ins0 (by omega)
theorem TxSmall.outs {t : TTx} (h : TxSmall t) : (outsB t.outs).length ≤ 17592186044416 := by
  have h1 := outsB_length t.outs h.1.2.2.1
  have h2 := h.2.2.1
  omega
theorem TxSmall.len {t : TTx} (h : TxSmall t) : (txB t).length ≤ 35184372088832 := by
  have h1 := h.ins0
  have h2 := h.outs
  have h3 := lenN_bd t.ins.length
  have h4 := lenN_bd t.outs.length
  simp only [txB, List.length_append, leB_length, putL_length]
  omega
theorem TxSmall.fit {t : TTx} (h : TxSmall t) : TxFit t :=
  ⟨h.1.1, h.1.2.1, h.1.2.2.1, fun x hx => Nat.le_trans (h.2.2.2 x hx) (by omega), Nat.le_trans h.2.1 (by omega), Nat.le_trans h.2.2.1 (by omega)⟩
theorem small_of_light {t : TTx} (h : TxCame t) (hl : lightB t = true) : TxSmall t := by
  unfold lightB at hl
  simp only [Bool.and_eq_true, decide_eq_true_eq, List.all_eq_true] at hl
  obtain ⟨h1, h2, h3⟩ := hl
  exact ⟨h, by omega, by omega, fun x hx => by have := h3 x hx; omega⟩
/-- A number from 0 on as the errors' places count. -/
def checkC (t : TTx) : Nat := checkN t - 100
theorem check_num (t : TTx) : numE (checkC t) = (checkN t : Int) ∧ checkC t ≤ 25 := by
  unfold checkC checkN
  split
  · exact ⟨rfl, by omega⟩
  split
  · exact ⟨rfl, by omega⟩
  split
  · exact ⟨rfl, by omega⟩
  split
  · exact ⟨rfl, by omega⟩
  split
  · exact ⟨rfl, by omega⟩
  split
  · split <;> exact ⟨rfl, by omega⟩
  · split <;> exact ⟨rfl, by omega⟩
/-- A transaction all of whose memory is above base. -/
def BytesC : Prop := ∀ (t : TTx) (v : Value) (w : World), TxAt w v t → TxSmall t →
  Calls Tryz.prog 42 #[v] w fun e w' => ∃ v', e = .returned v' ∧ w'.ownsRow w.heap.size 5 1 v' (txB t).length ((txB t).map bV) ∧ Below w.heap.size w w'
def SizeC : Prop := ∀ (t : TTx) (v : Value) (w : World), TxAt w v t → TxSmall t →
  Calls Tryz.prog 44 #[v] w fun e w' => e = .returned (.int .i64 ((txB t).length : Int)) ∧ Below w.heap.size w w'
def BaseC : Prop := ∀ (t : TTx) (v : Value) (w : World) (b : Bool), b = baseB t → TxAt w v t → TxSmall t →
  Calls Tryz.prog 94 #[v] w fun e w' => e = .returned (.bool b) ∧ Below w.heap.size w w'
def CheckC (E : Nat → Addr) : Prop := ∀ (t : TTx) (v : Value) (w : World) (c : Nat), c = checkC t → Er6 w E → TxAt w v t → TxSmall t →
  Calls Tryz.prog 93 #[v] w fun e w' => e = .returned (errV E c) ∧ Below w.heap.size w w'
def CloneC : Prop := ∀ (t : TTx) (v : Value) (w : World), TxAt w v t → TxSmall t →
  Calls Tryz.prog 66 #[v] w fun e w' => ∃ v', e = .returned v' ∧ TxAt w' v' t ∧ Below w.heap.size w w'
end Go.Proofs.YtdamhoagiooicaaGreatDoor.Sha

/-
  compact.Put answers the bytes and behind them the number in the fewest bytes, in new memory; nothing that was there turns. Conditions: fewer than 2^46 bytes, which lie where the slice says.
-/
namespace Go.Proofs.YtdamhoagiooicaaGreatDoor.Sha
open Go Go.RowKit
theorem ret_slice {p : Option Addr} {a b c : Nat} (h : a = b) : Ending.returned (.slice p a c) = .returned (.slice p b c) := by rw [h]
theorem newB_of {w w' : World} {k k2 c : Nat} {bs : List UInt8} (h : NewB w w' k c bs) (hk : k = k2) : NewB w w' k2 c bs := by subst hk; exact h
set_option maxRecDepth 100000 in
theorem put_0 (bs : List UInt8) (sp : Option Addr) (n cap x : Nat) (w : World) (hs : SrcB w (.slice sp n cap) bs) (hn : n ≤ 70368744177664) (hl : lenN x = 1) :
    Calls Tryz.prog 41 #[.slice sp n cap, .int .u64 x] w fun e w' => e = .returned (.slice (some ⟨w.heap.size, 0, none⟩) (n + 1) (n + 1)) ∧ NewB w w' (n + 1) (n + 1) (bs ++ [UInt8.ofNat x]) := by
  obtain ⟨i0, hi, hz0, hz1, hz2⟩ := info_parts info_u8
  have hby : (x : Int) % 256 = bv (UInt8.ofNat x) := by rw [← bv_of, IntKind.wrap_u8']
  obtain ⟨c, hc⟩ : ∃ c, c = UInt8.ofNat x := ⟨_, rfl⟩
  rw [← hc] at hby ⊢
  have HS := Lib.hid hs
  have HL := Lib.hid (show ((lenN x : Nat) : Int) = 1 by rw [hl]; rfl)
  clear hs hl hc
  go_enter Tryz.func41, Tryz.ntmps41
  go_wp2_with (first | (go_at_call 43; refine (len_is x 1 _ HL.out).mono ?_; rintro e w' ⟨rfl, rfl⟩) | (go_at_call 83; refine (room_any bs sp n cap 1 1 rfl _ HS.out hn (by omega)).mono ?_; rintro e w1 ⟨rfl, hn1⟩; have HN1 := Lib.hid hn1; clear hn1) | (at_builtin; refine wpList_append_fits _ rfl _ _ 30 rfl w.heap.size 5 i0 1 Tryz.underlying30 hi hz1 w.heap.size n (n + 1) _ rfl (HN1.out.1.alloc _) ⟨w1.heap.size, 0, none⟩ 1 1 [.int .u8 (bv c)] rfl rfl (cell_one_new _ _ _) (one_u8 _) (by omega) ?_; intro w2 ho hg; have HN2 := Lib.hid (HN1.out.push c ho hg); clear ho hg; go_frame))
  go_ret
  exact ⟨rfl, HN2.out⟩
set_option maxHeartbeats 400000 in
set_option maxRecDepth 100000 in
theorem put_2 (bs : List UInt8) (sp : Option Addr) (n cap x : Nat) (w : World) (hs : SrcB w (.slice sp n cap) bs) (hn : n ≤ 70368744177664) (hl : lenN x = 3) :
    Calls Tryz.prog 41 #[.slice sp n cap, .int .u64 x] w fun e w' => e = .returned (.slice (some ⟨w.heap.size, 0, none⟩) (n + 3) (n + 3)) ∧ NewB w w' (n + 3) (n + 3) (bs ++ 253 :: leB x 2) := by
  obtain ⟨i0, hi, hz0, hz1, hz2⟩ := info_parts info_u8
  have HS := Lib.hid hs
  have HL := Lib.hid (show ((lenN x : Nat) : Int) = 3 by rw [hl]; rfl)
  clear hs hl
  go_enter Tryz.func41, Tryz.ntmps41
  go_wp2_with (first | (go_at_call 43; refine (len_is x 3 _ HL.out).mono ?_; rintro e w' ⟨rfl, rfl⟩) | (go_at_call 83; refine (room_any bs sp n cap 3 3 rfl _ HS.out hn (by omega)).mono ?_; rintro e w1 ⟨rfl, hn1⟩; have HN1 := Lib.hid hn1; clear hn1) | (at_builtin; refine wpList_append_fits _ rfl _ _ 30 rfl w.heap.size 5 i0 1 Tryz.underlying30 hi hz1 w.heap.size n (n + 3) _ rfl (HN1.out.1.alloc _) ⟨w1.heap.size, 0, none⟩ 1 1 [.int .u8 (bv 253)] rfl rfl (cell_one_new _ _ _) (one_u8 _) (by omega) ?_; intro w2 ho hg; have HN2 := Lib.hid (HN1.out.push 253 ho hg); clear ho hg; go_frame) | (go_at_call 84; refine (lowest_any x 2 w.heap.size (n + 1) (n + 3) 2 rfl ((bs ++ [253]).map bV) _ (by omega) (by omega) (by omega) HN2.out.lt HN2.out.1).mono ?_; rintro e w3 ⟨rfl, ho, hb⟩; have HN3 := Lib.hid (HN2.out.low hb ho); clear ho hb))
  go_ret
  have h := HN3.out
  rw [List.append_assoc] at h
  exact ⟨ret_slice (by omega), newB_of h (by omega)⟩
set_option maxHeartbeats 400000 in
set_option maxRecDepth 100000 in
theorem put_4 (bs : List UInt8) (sp : Option Addr) (n cap x : Nat) (w : World) (hs : SrcB w (.slice sp n cap) bs) (hn : n ≤ 70368744177664) (hl : lenN x = 5) :
    Calls Tryz.prog 41 #[.slice sp n cap, .int .u64 x] w fun e w' => e = .returned (.slice (some ⟨w.heap.size, 0, none⟩) (n + 5) (n + 5)) ∧ NewB w w' (n + 5) (n + 5) (bs ++ 254 :: leB x 4) := by
  obtain ⟨i0, hi, hz0, hz1, hz2⟩ := info_parts info_u8
  have HS := Lib.hid hs
  have HL := Lib.hid (show ((lenN x : Nat) : Int) = 5 by rw [hl]; rfl)
  clear hs hl
  go_enter Tryz.func41, Tryz.ntmps41
  go_wp2_with (first | (go_at_call 43; refine (len_is x 5 _ HL.out).mono ?_; rintro e w' ⟨rfl, rfl⟩) | (go_at_call 83; refine (room_any bs sp n cap 5 5 rfl _ HS.out hn (by omega)).mono ?_; rintro e w1 ⟨rfl, hn1⟩; have HN1 := Lib.hid hn1; clear hn1) | (at_builtin; refine wpList_append_fits _ rfl _ _ 30 rfl w.heap.size 5 i0 1 Tryz.underlying30 hi hz1 w.heap.size n (n + 5) _ rfl (HN1.out.1.alloc _) ⟨w1.heap.size, 0, none⟩ 1 1 [.int .u8 (bv 254)] rfl rfl (cell_one_new _ _ _) (one_u8 _) (by omega) ?_; intro w2 ho hg; have HN2 := Lib.hid (HN1.out.push 254 ho hg); clear ho hg; go_frame) | (go_at_call 84; refine (lowest_any x 4 w.heap.size (n + 1) (n + 5) 4 rfl ((bs ++ [254]).map bV) _ (by omega) (by omega) (by omega) HN2.out.lt HN2.out.1).mono ?_; rintro e w3 ⟨rfl, ho, hb⟩; have HN3 := Lib.hid (HN2.out.low hb ho); clear ho hb))
  go_ret
  have h := HN3.out
  rw [List.append_assoc] at h
  exact ⟨ret_slice (by omega), newB_of h (by omega)⟩
set_option maxHeartbeats 400000 in
set_option maxRecDepth 100000 in
theorem put_8 (bs : List UInt8) (sp : Option Addr) (n cap x : Nat) (w : World) (hs : SrcB w (.slice sp n cap) bs) (hn : n ≤ 70368744177664) (hl : lenN x = 9) :
    Calls Tryz.prog 41 #[.slice sp n cap, .int .u64 x] w fun e w' => e = .returned (.slice (some ⟨w.heap.size, 0, none⟩) (n + 9) (n + 9)) ∧ NewB w w' (n + 9) (n + 9) (bs ++ 255 :: leB x 8) := by
  obtain ⟨i0, hi, hz0, hz1, hz2⟩ := info_parts info_u8
  have HS := Lib.hid hs
  have HL := Lib.hid (show ((lenN x : Nat) : Int) = 9 by rw [hl]; rfl)
  clear hs hl
  go_enter Tryz.func41, Tryz.ntmps41
  go_wp2_with (first | (go_at_call 43; refine (len_is x 9 _ HL.out).mono ?_; rintro e w' ⟨rfl, rfl⟩) | (go_at_call 83; refine (room_any bs sp n cap 9 9 rfl _ HS.out hn (by omega)).mono ?_; rintro e w1 ⟨rfl, hn1⟩; have HN1 := Lib.hid hn1; clear hn1) | (at_builtin; refine wpList_append_fits _ rfl _ _ 30 rfl w.heap.size 5 i0 1 Tryz.underlying30 hi hz1 w.heap.size n (n + 9) _ rfl (HN1.out.1.alloc _) ⟨w1.heap.size, 0, none⟩ 1 1 [.int .u8 (bv 255)] rfl rfl (cell_one_new _ _ _) (one_u8 _) (by omega) ?_; intro w2 ho hg; have HN2 := Lib.hid (HN1.out.push 255 ho hg); clear ho hg; go_frame) | (go_at_call 84; refine (lowest_any x 8 w.heap.size (n + 1) (n + 9) 8 rfl ((bs ++ [255]).map bV) _ (by omega) (by omega) (by omega) HN2.out.lt HN2.out.1).mono ?_; rintro e w3 ⟨rfl, ho, hb⟩; have HN3 := Lib.hid (HN2.out.low hb ho); clear ho hb))
  go_ret
  have h := HN3.out
  rw [List.append_assoc] at h
  exact ⟨ret_slice (by omega), newB_of h (by omega)⟩
theorem put_any (bs : List UInt8) (sp : Option Addr) (n cap x : Nat) (w : World) (hs : SrcB w (.slice sp n cap) bs) (hn : n ≤ 70368744177664) :
    Calls Tryz.prog 41 #[.slice sp n cap, .int .u64 x] w fun e w' => e = .returned (.slice (some ⟨w.heap.size, 0, none⟩) (n + lenN x) (n + lenN x)) ∧ NewB w w' (n + lenN x) (n + lenN x) (bs ++ putL x) := by
  by_cases h1 : x < 253
  · have e : lenN x = 1 := by unfold lenN; rw [if_pos h1]
    have e2 : putL x = [UInt8.ofNat x] := by unfold putL; rw [if_pos h1]
    rw [e2]
    simp only [e]
    exact put_0 bs sp n cap x w hs hn e
  by_cases h2 : x ≤ 65535
  · have e : lenN x = 3 := by unfold lenN; rw [if_neg h1, if_pos h2]
    have e2 : putL x = 253 :: leB x 2 := by unfold putL; rw [if_neg h1, if_pos h2]
    rw [e2]
    simp only [e]
    exact put_2 bs sp n cap x w hs hn e
  by_cases h3 : x ≤ 4294967295
  · have e : lenN x = 5 := by unfold lenN; rw [if_neg h1, if_neg h2, if_pos h3]
    have e2 : putL x = 254 :: leB x 4 := by unfold putL; rw [if_neg h1, if_neg h2, if_pos h3]
    rw [e2]
    simp only [e]
    exact put_4 bs sp n cap x w hs hn e
  · have e : lenN x = 9 := by unfold lenN; rw [if_neg h1, if_neg h2, if_neg h3]
    have e2 : putL x = 255 :: leB x 8 := by unfold putL; rw [if_neg h1, if_neg h2, if_neg h3]
    rw [e2]
    simp only [e]
    exact put_8 bs sp n cap x w hs hn e
end Go.Proofs.YtdamhoagiooicaaGreatDoor.Sha

/-
  What the walks of package tx share: cells of an input and an output as rows, bytes of so many of them, sums that stay. No conditions beyond those that each states.
-/
namespace Go.Proofs.YtdamhoagiooicaaGreatDoor.Sha
open Go Go.RowKit
theorem in_one (x : TIn) (kv : Value) (hk : kv.oneCell' = true) : (inL x kv).toArray.all (·.oneCell') = true := by
  rw [Array.all_eq_true_iff_forall_mem]
  intro u hu
  simp only [inL, ptL, List.mem_toArray, List.mem_append, List.mem_cons, List.mem_map, List.not_mem_nil, or_false] at hu
  rcases hu with (⟨a, _, rfl⟩ | rfl) | rfl | rfl
  · rfl
  · rfl
  · exact hk
  · rfl
theorem out_one (y : TOut) : (outL y).toArray.all (·.oneCell') = true := by
  rw [Array.all_eq_true_iff_forall_mem]
  intro u hu
  simp only [outL, List.mem_toArray, List.mem_cons, List.mem_map] at hu
  rcases hu with rfl | ⟨a, _, rfl⟩
  · rfl
  · rfl
theorem ins_snoc {l : List TIn} {k : Nat} {x : TIn} (h : l[k]? = some x) : insB (l.take (k + 1)) = insB (l.take k) ++ inB x := by
  have hk := (List.getElem?_eq_some_iff.1 h).1
  rw [List.take_succ_eq_append_getElem hk]
  have e : l[k] = x := (List.getElem?_eq_some_iff.1 h).2
  rw [e]
  simp [insB]
theorem outs_snoc {l : List TOut} {k : Nat} {x : TOut} (h : l[k]? = some x) : outsB (l.take (k + 1)) = outsB (l.take k) ++ outB x := by
  have hk := (List.getElem?_eq_some_iff.1 h).1
  rw [List.take_succ_eq_append_getElem hk]
  have e : l[k] = x := (List.getElem?_eq_some_iff.1 h).2
  rw [e]
  simp [outsB]
theorem ins_part {l : List TIn} {k : Nat} {x : TIn} (h : l[k]? = some x) : (insB (l.take k)).length + (inB x).length ≤ (insB l).length := by
  rw [← List.length_append, ← ins_snoc h]
  have e : insB l = insB (l.take (k + 1)) ++ insB (l.drop (k + 1)) := by
    conv => lhs; rw [← List.take_append_drop (k + 1) l]
    simp only [insB, List.flatMap_append]
  rw [e, List.length_append]
  omega
theorem outs_part {l : List TOut} {k : Nat} {x : TOut} (h : l[k]? = some x) : (outsB (l.take k)).length + (outB x).length ≤ (outsB l).length := by
  rw [← List.length_append, ← outs_snoc h]
  have e : outsB l = outsB (l.take (k + 1)) ++ outsB (l.drop (k + 1)) := by
    conv => lhs; rw [← List.take_append_drop (k + 1) l]
    simp only [outsB, List.flatMap_append]
  rw [e, List.length_append]
  omega
theorem i64_stays {x : Int} (h : 0 ≤ x ∧ x ≤ 9223372036854775807) : IntKind.i64.wrap x = x := IntWalk.i64_in _ (by omega)
theorem u64_stays {x : Int} (h : 0 ≤ x ∧ x ≤ 18446744073709551615) : IntKind.u64.wrap x = x := by rw [IntKind.wrap_u64]; omega
theorem TxSmall.bytes {t : TTx} (h : TxSmall t) : (txB t).length = 8 + lenN t.ins.length + lenN t.outs.length + (insB t.ins).length + 40 * t.outs.length := by
  simp only [txB, List.length_append, leB_length, putL_length, outsB_length t.outs h.1.2.2.1]
  omega
end Go.Proofs.YtdamhoagiooicaaGreatDoor.Sha

/-
  The statements' own Bytes copies bytes into new memory. Conditions: at least one byte, fewer than 2^46; the bytes lie where the slice says.
-/
namespace Go.Proofs.YtdamhoagiooicaaGreatDoor.Sha
open Go Go.RowKit
def CpInv (bs : List UInt8) (n : Nat) (w : World) (v i : Value) (wr : World) : Prop :=
  ∃ k : Nat, k ≤ n ∧ i = .int .i64 k ∧ v = .slice (some ⟨w.heap.size, 0, none⟩) k n ∧ wr.ownsRow w.heap.size 5 1 v k ((bs.take k).map bV) ∧ Below w.heap.size w wr
set_option maxHeartbeats 400000 in
set_option maxRecDepth 100000 in
theorem bytes_copy (bs : List UInt8) (sp : Option Addr) (n cap : Nat) (w : World) (hs : SrcB w (.slice sp n cap) bs) (hn0 : 0 < n) (hn : n ≤ 70368744177664) :
    Calls Tryz.prog 28 #[.slice sp n cap] w fun e w' => e = .returned (.slice (some ⟨w.heap.size, 0, none⟩) n n) ∧ w'.ownsRow w.heap.size 5 1 (.slice (some ⟨w.heap.size, 0, none⟩) n n) n (bs.map bV) ∧ Below w.heap.size w w' := by
  obtain ⟨i0, hi, hz0, hz1, hz2⟩ := info_parts info_u8
  have hnb := hs.le.1
  rcases hs with ⟨sp', cap', hv, rfl⟩ | ⟨_, bb, off, cap', hv, hc, hcell⟩
  · cases hv; omega
  cases hv
  obtain ⟨n, hn1⟩ : ∃ n, n = bs.length := ⟨_, rfl⟩
  have hbb : bb < w.heap.size := SrcB.block hn0 hcell
  rw [← hn1] at hc hcell hn0 hn ⊢
  have HN := Lib.hid hn1
  have HCELL := Lib.hid hcell
  clear hn1 hcell hnb
  go_enter Tryz.func28, Tryz.ntmps28
  go_wp2_with (at_make; refine wpList_make_own _ rfl _ _ 30 rfl w.heap.size 5 i0 (.int .u8 0) 1 Tryz.underlying30 hi hz0 hz1 _ _ _ n rfl rfl rfl (by rw [hz2]; omega) (by unfold maxLen; omega) (Nat.le_refl _) ?_; intro w2 hown hgrow; have HO := Lib.hid hown; have HG := Lib.hid hgrow; clear hown hgrow; go_frame)
  have hb2 : Below w.heap.size w w2 := (Below.refl _ _).grown HG.out (Nat.le_refl _) (fun k hk => by cases hk)
  have HB2 := Lib.hid hb2
  clear hb2
  go_loopw [3, 4] (fun v i wr => CpInv bs n w v i wr) (fun _ i _ => n - (intOf i).toNat)
  case atStart => exact ⟨0, by omega, rfl, rfl, HO.out, HB2.out⟩
  case round =>
    clear HO HG HB2
    obtain ⟨k, hk, rfl, rfl, hown, hb⟩ := hrel
    have HO := Lib.hid hown
    have HB := Lib.hid hb
    clear hown hb
    by_cases hlt : k < n
    · obtain ⟨c, hc2⟩ : ∃ c, c = bs.getD k 0 := ⟨_, rfl⟩
      have ck : wr.cell? ⟨bb, off + k, none⟩ = some (.int .u8 (bv c)) := by rw [HB.out.cell (p := ⟨bb, off + k, none⟩) hbb, hc2]; exact HCELL.out k hlt
      have HT : Hid (bs.take (k + 1) = bs.take k ++ [c]) := by
        have hkx : k < bs.length := by have := HN.out; omega
        have e : bs[k] = c := by rw [hc2]; simp [List.getD, List.getElem?_eq_getElem hkx]
        show _ = _
        rw [List.take_succ_eq_append_getElem hkx, e]
      clear hc2
      go_wp2_with (at_builtin; refine wpList_append_fits _ rfl _ _ 30 rfl w.heap.size 5 i0 1 Tryz.underlying30 hi hz1 w.heap.size k n _ rfl (HO.out.alloc _) ⟨wr.heap.size, 0, none⟩ 1 1 [.int .u8 (bv c)] rfl rfl (cell_one_new _ _ _) (one_u8 _) (by omega) ?_; intro w3 hown2 hgrow; have hown3 := Lib.hid hown2; have hgrow3 := Lib.hid hgrow; clear hown2 hgrow; go_frame)
      go_roundw
      case rel =>
        refine ⟨k + 1, by omega, by go_num, rfl, ?_, ?_⟩
        · rw [HT.out, List.map_append]
          exact hown3.out
        · have h1 : w.heap.size ≤ wr.heap.size := HB.out.size
          exact (HB.out.alloc h1 _).grown hgrow3.out (by simp; omega) (fun j hj => by cases hj; exact Nat.le_refl _)
      case measure => simp [intOf]; omega
    · have hkn : k = n := by omega
      have hge : ¬ (k : Int) < (n : Int) := by omega
      have HF : Hid (wr.ownsRow w.heap.size 5 1 (.slice (some ⟨w.heap.size, 0, none⟩) n n) n (bs.map bV)) := by
        have h := HO.out
        rw [hkn, List.take_of_length_le (by have := HN.out; omega)] at h
        exact h
      have HKN := Lib.hid hkn
      clear hkn
      go_wp2_with fail
      go_ret
      exact ⟨by rw [HKN.out]; rfl, HF.out, HB.out⟩
set_option maxHeartbeats 400000 in
set_option maxRecDepth 100000 in
theorem bytes_copy0 (sp : Option Addr) (cap : Nat) (w : World) :
    Calls Tryz.prog 28 #[.slice sp 0 cap] w fun e w' => e = .returned (.slice (some ⟨w.heap.size, 0, none⟩) 0 0) ∧ w'.ownsRow w.heap.size 5 1 (.slice (some ⟨w.heap.size, 0, none⟩) 0 0) 0 [] ∧ Below w.heap.size w w' := by
  obtain ⟨i0, hi, hz0, hz1, hz2⟩ := info_parts info_u8
  go_enter Tryz.func28, Tryz.ntmps28
  go_wp2_with (at_make; refine wpList_make_own _ rfl _ _ 30 rfl w.heap.size 5 i0 (.int .u8 0) 1 Tryz.underlying30 hi hz0 hz1 _ _ _ 0 rfl rfl rfl (by rw [hz2]; omega) (by unfold maxLen; omega) (Nat.le_refl _) ?_; intro w2 hown hgrow; have HO := Lib.hid hown; have HG := Lib.hid hgrow; clear hown hgrow; go_frame)
  have hb2 : Below w.heap.size w w2 := (Below.refl _ _).grown HG.out (Nat.le_refl _) (fun k hk => by cases hk)
  have HB2 := Lib.hid hb2
  clear hb2
  refine wp_loop_rounds 1 ?_
  rw [rounds_succ]
  go_wp2_with fail
  go_ret
  exact ⟨rfl, HO.out, HB2.out⟩
/-- A copy of any bytes. -/
theorem bytes_copy_any (bs : List UInt8) (sp : Option Addr) (n cap : Nat) (w : World) (hs : SrcB w (.slice sp n cap) bs) (hn : n ≤ 70368744177664) :
    Calls Tryz.prog 28 #[.slice sp n cap] w fun e w' => e = .returned (.slice (some ⟨w.heap.size, 0, none⟩) n n) ∧ w'.ownsRow w.heap.size 5 1 (.slice (some ⟨w.heap.size, 0, none⟩) n n) n (bs.map bV) ∧ Below w.heap.size w w' := by
  by_cases h0 : 0 < n
  · exact bytes_copy bs sp n cap w hs h0 hn
  · obtain rfl : n = 0 := by omega
    have hb := hs.le.1
    have hnil : bs = [] := List.eq_nil_of_length_eq_zero hb.symm
    subst hnil
    exact bytes_copy0 sp cap w
end Go.Proofs.YtdamhoagiooicaaGreatDoor.Sha

/-
  What 'build' lays: a part over the zero value's cells, from an offset on. A place out of a digest and a number. Condition: a digest of 32 bytes.
-/
namespace Go.Proofs.YtdamhoagiooicaaGreatDoor.Sha
open Go Go.RowKit
theorem fold_fill (off : Nat) : ∀ (v : List Value) (k : Nat) (cs : List Value), off + k + v.length ≤ cs.length →
    (v.zipIdx k).foldl (fun (cs : Array Value) (x : Value × Nat) => cs.setIfInBounds (off + x.2) x.1) cs.toArray = (cs.take (off + k) ++ v ++ cs.drop (off + k + v.length)).toArray
  | [], k, cs, _ => by simp
  | x :: v, k, cs, h => by
    rw [List.length_cons] at h
    rw [List.zipIdx_cons, List.foldl_cons, List.setIfInBounds_toArray, fold_fill off v (k + 1) (cs.set (off + k) x) (by rw [List.length_set]; omega)]
    congr 1
    have e1 : (cs.set (off + k) x).take (off + (k + 1)) = cs.take (off + k) ++ [x] := by
      rw [show off + (k + 1) = (off + k) + 1 by omega, List.take_succ_eq_append_getElem (by rw [List.length_set]; omega), List.getElem_set_self, List.take_set_of_le (by omega)]
    have e2 : (cs.set (off + k) x).drop (off + (k + 1) + v.length) = cs.drop (off + k + (x :: v).length) := by
      rw [List.drop_set_of_lt (by omega), List.length_cons]
      congr 1
      omega
    rw [e1, e2]
    simp
theorem fill_part (place : Nat → Option (Nat × Nat)) (i off : Nat) (v : Value) (vs cs : List Value) (rest : List (Nat × Value)) (hv : v.cells = vs.toArray) (hp : place i = some (off, vs.length)) (hl : off + vs.length ≤ cs.length) :
    Instr.fill place cs.toArray ((i, v) :: rest) = Instr.fill place (cs.take off ++ vs ++ cs.drop (off + vs.length)).toArray rest := by
  have h := fold_fill off vs 0 cs (by omega)
  rw [Instr.fill, hp]
  simp only [hv, List.size_toArray, ne_eq, not_true_eq_false, gt_iff_lt]
  rw [if_neg (by simp; omega)]
  congr 1
  rw [Nat.add_zero] at h
  rw [← h, ← Array.foldl_toList]
  simp
/-- A place built of a digest and a number. -/
theorem built_pt (h : List UInt8) (n : Nat) (hh : h.length = 32) : Tryz.prog.built 68 [(0, .agg (h.map bV).toArray), (1, .int .u32 (n : Int))] = some (ptL h n).toArray := by
  have hz : ∀ parts, Tryz.prog.built 68 parts = Instr.fill ([(0, 32), (32, 1)].toArray[·]?) (List.replicate 32 (bV 0) ++ [nV 0]).toArray parts := fun parts => by kernel_rfl
  rw [hz, fill_part _ 0 0 (.agg (h.map bV).toArray) (h.map bV) _ _ rfl (by simp [hh]) (by simp [hh]), List.take_zero, List.nil_append, List.length_map, hh, Nat.zero_add,
    fill_part _ 1 32 (.int .u32 (n : Int)) [.int .u32 (n : Int)] _ _ rfl rfl (by simp [hh])]
  have e : (h.map bV ++ (List.replicate 32 (bV 0) ++ [nV 0]).drop 32).take 32 = h.map bV := by rw [List.take_append_of_le_length (by simp [hh]), List.take_of_length_le (by simp [hh])]
  rw [e]
  have e2 : (h.map bV ++ (List.replicate 32 (bV 0) ++ [nV 0]).drop 32).drop (32 + [Value.int .u32 (n : Int)].length) = [] := List.drop_eq_nil_of_le (by simp [hh])
  rw [e2, List.append_nil]
  rfl
end Go.Proofs.YtdamhoagiooicaaGreatDoor.Sha
