/-
  Texts of this proof joined into one file: RefCheck, TxLight, TxSm, TxC, CmpTake, CmpRead. What each holds, and under which conditions, its own first sentence tells.
-/
import Derived.Test.YtkabpbclmhmgfaaDoorMg06
import Derived.Test.YtkabpbclmhmgfaaDoorMg04
import Derived.Test.YtkabpbclmhmgfaaDoorMg02
import Derived.Test.YtkabpbclmhmgfaaDoorMg01
import Derived.Test.YtkabpbclmhmgfaaDoorMg05
/-
  The statements' own CheckTx tells what is amiss first with a transaction. Nothing that was there turns. Conditions: a transaction that lies in memory, its bytes fewer than 2^44.
-/
namespace Go.Proofs.YtkabpbclmhmgfaaDoor.Sha
open Go Go.RowKit

theorem samePtIn_symm (x y : TIn) : samePtIn x y = samePtIn y x := by
  unfold samePtIn
  rw [Bool.eq_iff_iff]
  simp only [Bool.and_eq_true, decide_eq_true_eq]
  constructor <;> (rintro ⟨a, b⟩; exact ⟨a.symm, b.symm⟩)
theorem twice_true : ∀ {l : List TIn} {a b : Nat} {x y : TIn}, b < a → l[a]? = some x → l[b]? = some y → samePtIn x y = true → twiceB l = true
  | [], _, _, _, _, _, h, _, _ => by simp at h
  | z :: l, a, b, x, y, hlt, ha, hb, hs => by
    obtain ⟨a, rfl⟩ : ∃ c, a = c + 1 := ⟨a - 1, by omega⟩
    rw [List.getElem?_cons_succ] at ha
    cases b with
    | zero =>
      simp at hb
      subst hb
      have : (l.any (samePtIn z)) = true := by
        rw [List.any_eq_true]
        exact ⟨x, List.mem_of_getElem? ha, by rw [samePtIn_symm]; exact hs⟩
      simp [twiceB, this]
    | succ b =>
      rw [List.getElem?_cons_succ] at hb
      simp [twiceB, twice_true (by omega) ha hb hs]
theorem twice_false : ∀ {l : List TIn}, (∀ (a b : Nat) (x y : TIn), b < a → l[a]? = some x → l[b]? = some y → samePtIn x y = false) → twiceB l = false
  | [], _ => rfl
  | z :: l, h => by
    have h1 : twiceB l = false := twice_false (fun a b x y hab ha hb => h (a + 1) (b + 1) x y (by omega) (by rw [List.getElem?_cons_succ]; exact ha) (by rw [List.getElem?_cons_succ]; exact hb))
    have h2 : (l.any (samePtIn z)) = false := by
      rw [List.any_eq_false]
      intro x hx
      obtain ⟨i, hi⟩ := List.getElem?_of_mem hx
      have := h (i + 1) 0 x z (by omega) (by rw [List.getElem?_cons_succ]; exact hi) rfl
      rw [samePtIn_symm, this]
      simp
    simp [twiceB, h1, h2]
theorem any_false {α : Type} {l : List α} {p : α → Bool} (h : ∀ (j : Nat) (x : α), l[j]? = some x → p x = false) : l.any p = false := by
  rw [List.any_eq_false]
  intro x hx
  obtain ⟨j, hj⟩ := List.getElem?_of_mem hx
  rw [h j x hj]
  simp
theorem any_true {α : Type} {l : List α} {p : α → Bool} {j : Nat} {x : α} (h : l[j]? = some x) (hp : p x = true) : l.any p = true := List.any_eq_true.2 ⟨x, List.mem_of_getElem? h, hp⟩
def CkInv (n : Nat) (P : Nat → Prop) (w1 : World) (i : Value) (wr : World) : Prop := ∃ k : Nat, k ≤ n ∧ i = .int .i64 k ∧ P k ∧ Below w1.heap.size w1 wr
theorem chk_many {t : TTx} (h : t.ins.length = 0 ∨ 50 < t.ins.length ∨ t.outs.length = 0 ∨ 50 < t.outs.length) : checkN t = 104 := by unfold checkN; rw [if_pos h]
theorem chk_rest {t : TTx} (h : ¬ (t.ins.length = 0 ∨ 50 < t.ins.length ∨ t.outs.length = 0 ∨ 50 < t.outs.length)) : checkN t =
    if 4000 < (txB t).length then 103 else if t.ins.any (fun x => decide (80 < x.key.length)) then 114 else if sumIs (t.outs.map (·.val)) = false then 105 else if twiceB t.ins then 106
    else if baseB t then (if t.ins.any (fun x => decide (x.key.length < 4)) then 107 else 0) else if t.ins.any isNullIn then 107 else 0 := by unfold checkN; rw [if_neg h]
set_option maxHeartbeats 4000000 in
set_option maxRecDepth 100000 in
theorem rcheck_any (t : TTx) (v : Value) (w : World) (h1 : TxAt w v t) (hli : (insB t.ins).length ≤ 17592186044416) (hlo : (outsB t.outs).length ≤ 17592186044416) (hni : t.ins.length ≤ 9223372036854775807) (hno : t.outs.length ≤ 9223372036854775807) (hoo : OutsOk t.outs) (c : Nat) (hc : c = checkN t) :
    Calls Tryd.prog 22 #[v] w fun e w' => e = .returned (.int .i64 (c : Int)) ∧ Below w.heap.size w w' := by
  have h1' := h1
  obtain ⟨ht0, iv, ov, rfl, hti, hto⟩ := h1
  obtain ⟨si, ci, rfl, hci, hti⟩ := hti
  obtain ⟨so, co, rfl, hco, hto⟩ := hto
  have HTI := Lib.hid hti
  have HLI := Lib.hid hli
  have HLO := Lib.hid hlo
  have HNI := Lib.hid hni
  have HNO := Lib.hid hno
  have HOO := Lib.hid hoo
  have HC := Lib.hid hc
  obtain ⟨ni, hn1⟩ : ∃ ni, ni = t.ins.length := ⟨_, rfl⟩
  obtain ⟨no, hn2⟩ : ∃ no, no = t.outs.length := ⟨_, rfl⟩
  obtain ⟨vt, hvt⟩ : ∃ vt, vt = t.ver := ⟨_, rfl⟩
  obtain ⟨tt, htt⟩ : ∃ tt, tt = t.time := ⟨_, rfl⟩
  rw [← hn1] at hni
  rw [← hn2] at hno
  have NI := Lib.hid hn1
  have NO := Lib.hid hn2
  simp only [txL, ← hn1, ← hn2, ← hvt, ← htt] at h1' ⊢
  have H1 := Lib.hid h1'
  obtain ⟨Z, hZ⟩ : ∃ Z : List UInt8, Z = List.replicate 32 0 := ⟨_, rfl⟩
  obtain ⟨M, hM⟩ : ∃ M : Nat, M = 4294967295 := ⟨_, rfl⟩
  have hZl : Z.length = 32 := by rw [hZ]; rfl
  have HZL := Lib.hid hZl
  have NR : Hid (∀ w, Calls Tryd.prog 33 #[] w fun e w' => e = .returned (.agg (ptL Z M).toArray) ∧ Below w.heap.size w w') := fun w => by rw [hZ, hM]; exact rnull_any w
  have HZM : Hid (Z = List.replicate 32 0 ∧ M = 4294967295) := ⟨hZ, hM⟩
  clear hn1 hn2 hci hco hvt htt ht0 hti hto hli hlo h1' hZ hM hZl hc hoo
  go_enter Tryd.func22, Tryd.ntmps22
  go_upto_region 1 with fail
  have F := Lib.hid (heap_alloc_new w (.cells [nV vt, .slice si ni ci, .slice so no co, nV tt].toArray 26 (0, 0)))
  have B0 := Lib.hid ((Below.refl w.heap.size w).alloc (Nat.le_refl _) (.cells [nV vt, .slice si ni ci, .slice so no co, nV tt].toArray 26 (0, 0)))
  generalize hw1 : World.alloc _ _ = w1
  have e1 : w.alloc (.cells [nV vt, .slice si ni ci, .slice so no co, nV tt].toArray 26 (0, 0)) = w1 := hw1
  rw [e1] at F B0
  clear hw1 e1
  have BOX : Hid (∀ w', Below w1.heap.size w1 w' → ∀ j v, [nV vt, .slice si ni ci, .slice so no co, nV tt][j]? = some v → w'.cell? ⟨w.heap.size, j, none⟩ = some v) := fun w' hw' j v hj => by
    rw [cell_of_row _ _ _ _ _ _ (row_below F.out hw'), List.getElem?_toArray]
    exact hj
  have c1 : w1.cell? ⟨w.heap.size, 1, none⟩ = some (.slice si ni ci) := BOX.out w1 (Below.refl _ _) 1 _ rfl
  have c2 : w1.cell? ⟨w.heap.size, 2, none⟩ = some (.slice so no co) := BOX.out w1 (Below.refl _ _) 2 _ rfl
  by_cases hi0 : ni = 0
  · have e1 : ((ni : Int) == 0) = true := by rw [beq_iff_eq]; omega
    have HQ : Hid (c = 104) := by show _ = _; rw [HC.out]; exact chk_many (.inl (by have := NI.out; omega))
    clear hi0
    go_wp2_with fail
    go_ret
    exact ⟨by rw [HQ.out]; rfl, B0.out⟩
  have e1 : ((ni : Int) == 0) = false := by rw [beq_eq_false_iff_ne]; omega
  by_cases hi5 : 50 < ni
  · have e2 : (50 : Int) < (ni : Int) := by omega
    have e2' : decide ((50 : Int) < (ni : Int)) = true := decide_eq_true e2
    have HQ : Hid (c = 104) := by show _ = _; rw [HC.out]; exact chk_many (.inr (.inl (by have := NI.out; omega)))
    clear hi0 hi5
    go_wp2_with fail
    go_ret
    exact ⟨by rw [HQ.out]; rfl, B0.out⟩
  have e2 : ¬ (50 : Int) < (ni : Int) := by omega
  have e2' : decide ((50 : Int) < (ni : Int)) = false := decide_eq_false e2
  by_cases ho0 : no = 0
  · have e3 : ((no : Int) == 0) = true := by rw [beq_iff_eq]; omega
    have HQ : Hid (c = 104) := by show _ = _; rw [HC.out]; exact chk_many (.inr (.inr (.inl (by have := NO.out; omega))))
    clear hi0 hi5 ho0
    go_wp2_with fail
    go_ret
    exact ⟨by rw [HQ.out]; rfl, B0.out⟩
  have e3 : ((no : Int) == 0) = false := by rw [beq_eq_false_iff_ne]; omega
  by_cases ho5 : 50 < no
  · have e4 : (50 : Int) < (no : Int) := by omega
    have e4' : decide ((50 : Int) < (no : Int)) = true := decide_eq_true e4
    have HQ : Hid (c = 104) := by show _ = _; rw [HC.out]; exact chk_many (.inr (.inr (.inr (by have := NO.out; omega))))
    clear hi0 hi5 ho0 ho5
    go_wp2_with fail
    go_ret
    exact ⟨by rw [HQ.out]; rfl, B0.out⟩
  have e4 : ¬ (50 : Int) < (no : Int) := by omega
  have e4' : decide ((50 : Int) < (no : Int)) = false := decide_eq_false e4
  have HC2 : Hid (c = if 4000 < (txB t).length then 103 else if t.ins.any (fun x => decide (80 < x.key.length)) then 114 else if sumIs (t.outs.map (·.val)) = false then 105 else if twiceB t.ins then 106
    else if baseB t then (if t.ins.any (fun x => decide (x.key.length < 4)) then 107 else 0) else if t.ins.any isNullIn then 107 else 0) := by
    show _ = _
    rw [HC.out]
    exact chk_rest (by have := NI.out; have := NO.out; omega)
  have HN50 : Hid (0 < ni ∧ ni ≤ 50 ∧ 0 < no ∧ no ≤ 50) := ⟨by omega, by omega, by omega, by omega⟩
  clear hi0 hi5 ho0 ho5 HC
  go_wp2_with ((with_reducible show wpList _ _ _ _ _ _); refine wpList_load_row rfl 26 (.tmp 1) rfl w.heap.size rfl 26 [nV vt, .slice si ni ci, .slice so no co, nV tt].toArray (0, 0) _ F.out Tryd.underlying26 rfl (by kernel_rfl) ?_; go_frame)
  refine (rsize_any t _ w1 (H1.out.below B0.out) HLI.out HLO.out HNI.out HNO.out).mono ?_
  rintro e w2 ⟨rfl, hb2⟩
  have B2 := Lib.hid hb2
  obtain ⟨sz, hsz⟩ : ∃ sz, sz = (txB t).length := ⟨_, rfl⟩
  rw [← hsz]
  rw [← hsz] at HC2
  clear hb2 c1 c2 e1 e2 e2' e3 e4 e4' hsz
  by_cases h4 : 4000 < sz
  · have e1 : (4000 : Int) < (sz : Int) := by omega
    have HQ : Hid (c = 103) := by show _ = _; rw [HC2.out, if_pos h4]
    clear h4
    go_wp2_with fail
    go_ret
    exact ⟨by rw [HQ.out]; rfl, B0.out.trans (B2.out.mono B0.out.size)⟩
  have e1 : ¬ (4000 : Int) < (sz : Int) := by omega
  have hc3 := HC2.out
  rw [if_neg h4] at hc3
  have HC3 := Lib.hid hc3
  clear hc3
  clear h4 HC2
  go_wp2_with fail
  clear e1
  go_loopw [3] (fun i wr => CkInv ni (fun k => ∀ (j : Nat) x, j < k → t.ins[j]? = some x → x.key.length ≤ 80) w1 i wr) (fun i _ => ni - (intOf i).toNat)
  case atStart => exact ⟨0, by omega, rfl, fun j x hj => by omega, B2.out⟩
  case round =>
    clear B2
    obtain ⟨k, hk, rfl, hp, B⟩ := hrel
    have B := Lib.hid B
    have HP := Lib.hid hp
    have c1 : wr.cell? ⟨w.heap.size, 1, none⟩ = some (.slice si ni ci) := BOX.out wr B.out 1 _ rfl
    clear hp
    by_cases hlt : k < ni
    · have hkx : k < t.ins.length := by have := NI.out; omega
      obtain ⟨b1, o1, hs1, he1⟩ := HTI.out (by omega)
      have g1 := he1 k _ (List.getElem?_eq_getElem hkx)
      obtain ⟨x, hx⟩ : ∃ x, x = t.ins[k] := ⟨_, rfl⟩
      rw [← hx] at g1
      have hgx : t.ins[k]? = some x := by rw [hx]; exact List.getElem?_eq_getElem _
      obtain ⟨hx1, kx, hkx2, hr1⟩ := g1
      obtain ⟨sx, cx, hkv⟩ := hkx2.2
      have ck : wr.cell? ⟨b1, o1 + k * 35 + 33, none⟩ = some (.slice sx x.key.length cx) := by
        rw [← hkv]
        exact in_key hx1.1 (range_below (range_below hr1 B0.out) B.out)
      obtain ⟨kl, hkl⟩ : ∃ kl, kl = x.key.length := ⟨_, rfl⟩
      rw [← hkl] at ck
      rw [hs1] at c1
      have p0 : 0 ≤ (k : Int) := by omega
      have q0 : (k : Int) < (ni : Int) := by omega
      have GX := Lib.hid hgx
      have KL := Lib.hid hkl
      clear hx hgx he1 hs1 hx1 hkx2 hr1 hkv hkl
      by_cases h80 : 80 < kl
      · have hle : (80 : Int) < (kl : Int) := by omega
        have HQ : Hid (c = 114) := by
          show _ = _
          rw [HC3.out, if_pos (any_true GX.out (by rw [← KL.out]; exact decide_eq_true h80))]
        clear h80
        go_wp2_with fail
        go_ret
        exact ⟨by rw [HQ.out]; rfl, B0.out.trans (B.out.mono B0.out.size)⟩
      · have hle : ¬ (80 : Int) < (kl : Int) := by omega
        have H80 := Lib.hid h80
        clear h80
        go_wp2_with fail
        go_roundw
        case rel =>
          refine ⟨k + 1, by omega, by go_num, fun j y hj hy => ?_, B.out⟩
          by_cases hj2 : j < k
          · exact HP.out j y hj2 hy
          · obtain rfl : j = k := by omega
            have := Option.some.inj (GX.out.symm.trans hy)
            subst this
            rw [← KL.out]
            exact Nat.le_of_not_lt H80.out
        case measure => simp [intOf]; omega
    · have hkn : k = ni := by omega
      have hge : ¬ (k : Int) < (ni : Int) := by omega
      have hc4 := HC3.out
      rw [if_neg (by rw [any_false (fun j x hj => decide_eq_false (by have := HP.out j x (by have := (List.getElem?_eq_some_iff.1 hj).1; have := NI.out; omega) hj; omega))]; simp)] at hc4
      have HC4 := Lib.hid hc4
      clear hc4
      clear hkn HC3 HP hlt
      go_wp2_with ((with_reducible show wpList _ _ _ _ _ _); refine wpList_load_row rfl 26 (.tmp 1) rfl w.heap.size rfl 26 [nV vt, .slice si ni ci, .slice so no co, nV tt].toArray (0, 0) _ (row_below F.out B.out) Tryd.underlying26 rfl (by kernel_rfl) ?_; go_frame)
      refine (vals_any t _ wr ((H1.out.below B0.out).below B.out) (by have := NO.out; have := HN50.out; omega)).mono ?_
      rintro e w3 ⟨v3, rfl, hs3, hb3⟩
      have B := Lib.hid (B.out.trans (hb3.mono B.out.size))
      have S3 := Lib.hid hs3
      clear hs3 hb3 c1 hge
      go_wp2_with fail
      refine (sum_r _ v3 w3 S3.out (by have := NO.out; have := HN50.out; rw [List.length_map]; omega) (fun j => by
        by_cases hj : j < (t.outs.map (·.val)).length
        · rw [List.getD, List.getElem?_eq_getElem hj, List.getElem_map]
          exact (HOO.out _ (List.getElem_mem _)).2
        · rw [List.getD, List.getElem?_eq_none (by omega)]
          exact Nat.zero_le _)).mono ?_
      rintro e w3' ⟨rfl, rfl⟩
      clear S3
      by_cases hsum : (t.outs.map (·.val)).sum ≤ most
      case neg =>
        rw [sumV_no hsum]
        have HQ : Hid (c = 105) := by show _ = _; rw [HC4.out, if_pos (by rw [sumIs]; exact decide_eq_false hsum)]
        clear hsum
        go_wp2_with fail
        go_ret
        exact ⟨by rw [HQ.out]; rfl, B0.out.trans (B.out.mono B0.out.size)⟩
      rw [sumV_yes hsum]
      have hc5 := HC4.out
      rw [if_neg (by rw [sumIs, decide_eq_true hsum]; simp)] at hc5
      have HC5 := Lib.hid hc5
      clear hc5
      obtain ⟨ss, hss⟩ : ∃ ss, ss = (t.outs.map (·.val)).sum := ⟨_, rfl⟩
      rw [← hss]
      clear HC4 hsum hss
      go_wp2_with fail
      go_loopw [6] (fun i wr => CkInv ni (fun k => ∀ (a b : Nat) (x y : TIn), a < k → b < a → t.ins[a]? = some x → t.ins[b]? = some y → samePtIn x y = false) w1 i wr) (fun i _ => ni - (intOf i).toNat)
      case atStart => exact ⟨0, by omega, rfl, fun a b x y ha => by omega, B.out⟩
      case round =>
        clear B
        obtain ⟨k, hk, rfl, hp, B⟩ := hrel
        have B := Lib.hid B
        have HP := Lib.hid hp
        have c1 : wr.cell? ⟨w.heap.size, 1, none⟩ = some (.slice si ni ci) := BOX.out wr B.out 1 _ rfl
        clear hp
        by_cases hlt : k < ni
        · have hkx : k < t.ins.length := by have := NI.out; omega
          obtain ⟨b1, o1, hs1, he1⟩ := HTI.out (by omega)
          have g1 := he1 k _ (List.getElem?_eq_getElem hkx)
          obtain ⟨x, hx⟩ : ∃ x, x = t.ins[k] := ⟨_, rfl⟩
          rw [← hx] at g1
          have hgx : t.ins[k]? = some x := by rw [hx]; exact List.getElem?_eq_getElem _
          obtain ⟨hx1, kx, hkx2, hr1⟩ := g1
          have RX := Lib.hid (in_pt (range_below hr1 B0.out))
          have LX := Lib.hid (show (ptL x.h x.n).length = 33 by rw [ptL_length, hx1.1])
          have XH := Lib.hid hx1.1
          have GX := Lib.hid hgx
          have HE1 := Lib.hid he1
          have HS1 := Lib.hid hs1
          have p0 : 0 ≤ (k : Int) := by omega
          have q0 : (k : Int) < (ni : Int) := by omega
          clear hx hgx he1 hs1 hx1 hkx2 hr1
          go_wp2_with fail
          clear c1
          go_loopw [7] (fun i wr => CkInv k (fun j => ∀ (b : Nat) (y : TIn), b < j → t.ins[b]? = some y → samePtIn x y = false) w1 i wr) (fun i _ => k - (intOf i).toNat)
          case atStart => exact ⟨0, by omega, rfl, fun b y hb => by omega, B.out⟩
          case round =>
            clear B
            obtain ⟨j, hj, rfl, hq, B⟩ := hrel
            have B := Lib.hid B
            have HQJ := Lib.hid hq
            clear hq
            by_cases hjlt : j < k
            · have hjx : j < t.ins.length := by have := NI.out; omega
              have g2 := HE1.out j _ (List.getElem?_eq_getElem hjx)
              obtain ⟨y, hy⟩ : ∃ y, y = t.ins[j] := ⟨_, rfl⟩
              rw [← hy] at g2
              have hgy : t.ins[j]? = some y := by rw [hy]; exact List.getElem?_eq_getElem _
              obtain ⟨hy1, ky, hky2, hr2⟩ := g2
              have RY := Lib.hid (in_pt (range_below hr2 B0.out))
              have LY := Lib.hid (show (ptL y.h y.n).length = 33 by rw [ptL_length, hy1.1])
              have YH := Lib.hid hy1.1
              have GY := Lib.hid hgy
              have j0 : 0 ≤ (j : Int) := by omega
              have j1 : (j : Int) < (k : Int) := by omega
              have j2 : (j : Int) < (ni : Int) := by omega
              obtain ⟨q, hq⟩ : ∃ q, q = (decide (x.h = y.h) && decide (x.n = y.n)) := ⟨_, rfl⟩
              have HSQ : Hid (q = samePtIn x y) := hq
              have HQ := Lib.hid hq
              clear hy hgy hy1 hky2 hr2 hq
              go_wp2_with fail
              refine wp_region_below (by kernel_rfl) (by kernel_rfl) wr (Below.refl _ _) ?_
              cases q
              all_goals
                repeat (first | (go_big_quiet_want; (first | refine quiet_load_one 23 (.tmp 69) rfl w.heap.size 1 rfl (.slice (some ⟨b1, o1, none⟩) ni ci) _ (fun w' hw' => by rw [BOX.out w' (B.out.trans (hw'.mono B.out.size)) 1 _ rfl, HS1.out]) Tryd.underlying23 rfl ?_ | refine quiet_load_one 23 (.tmp 75) rfl w.heap.size 1 rfl (.slice (some ⟨b1, o1, none⟩) ni ci) _ (fun w' hw' => by rw [BOX.out w' (B.out.trans (hw'.mono B.out.size)) 1 _ rfl, HS1.out]) Tryd.underlying23 rfl ?_ | refine quiet_load_mid 52 (.tmp 73) rfl b1 (o1 + k * 35) rfl (ptL x.h x.n) _ (fun w' hw' => range_below (range_below RX.out B.out) hw') Tryd.underlying52 rfl (by rw [LX.out]; kernel_rfl) ?_ | refine quiet_load_mid 52 (.tmp 79) rfl b1 (o1 + j * 35) rfl (ptL y.h y.n) _ (fun w' hw' => range_below (range_below RY.out B.out) hw') Tryd.underlying52 rfl (by rw [LY.out]; kernel_rfl) ?_); go_frame; go_big_quiet_on) | go_big_quiet_step ((intro hw'; first | with_reducible exact cls hw' (samept_any x.h y.h x.n y.n XH.out YH.out _ HQ.out _) | rfl)))
                refine wpQuiet_nil ?_
                intro w7 hw7
                have B := Lib.hid (B.out.trans (hw7.mono B.out.size))
                clear hw7
                go_wp2_with fail
              · go_roundw
                case rel =>
                  refine ⟨j + 1, by omega, by go_num, fun b z hb hz => ?_, B.out⟩
                  by_cases hb2 : b < j
                  · exact HQJ.out b z hb2 hz
                  · obtain rfl : b = j := by omega
                    have := Option.some.inj (GY.out.symm.trans hz)
                    subst this
                    exact HSQ.out.symm
                case measure => simp [intOf]; omega
              · go_ret
                refine ⟨?_, B0.out.trans (B.out.mono B0.out.size)⟩
                rw [HC5.out, if_pos (twice_true hjlt GX.out GY.out HSQ.out.symm)]
                rfl
            · have hjk : j = k := by omega
              have hjge : ¬ (j : Int) < (k : Int) := by omega
              have HQK := HQJ.out
              rw [hjk] at HQK
              have HQK := Lib.hid HQK
              clear hjk hjlt
              go_wp2_with fail
              go_roundw
              case rel =>
                refine ⟨k + 1, by omega, by go_num, fun a b u z ha hb hu hz => ?_, B.out⟩
                by_cases ha2 : a < k
                · exact HP.out a b u z ha2 hb hu hz
                · obtain rfl : a = k := by omega
                  have := Option.some.inj (GX.out.symm.trans hu)
                  subst this
                  exact HQK.out b z hb hz
              case measure => simp [intOf]; omega
        · have hkn : k = ni := by omega
          have hge : ¬ (k : Int) < (ni : Int) := by omega
          have hc6 := HC5.out
          rw [if_neg (by rw [twice_false (fun a b x y hab ha hb => HP.out a b x y (by have := (List.getElem?_eq_some_iff.1 ha).1; have := NI.out; omega) hab ha hb)]; simp)] at hc6
          have HC6 := Lib.hid hc6
          clear hc6
          clear hkn HC5 HP hlt
          go_wp2_with ((with_reducible show wpList _ _ _ _ _ _); refine wpList_load_row rfl 26 (.tmp 1) rfl w.heap.size rfl 26 [nV vt, .slice si ni ci, .slice so no co, nV tt].toArray (0, 0) _ (row_below F.out B.out) Tryd.underlying26 rfl (by kernel_rfl) ?_; go_frame)
          refine (rbase_any t _ wr ((H1.out.below B0.out).below B.out) _ rfl).mono ?_
          rintro e w4 ⟨rfl, hb4⟩
          have B := Lib.hid (B.out.trans (hb4.mono B.out.size))
          clear hb4 c1 hge
          obtain ⟨bb, hbb⟩ : ∃ bb, bb = baseB t := ⟨_, rfl⟩
          rw [← hbb] at HC6 ⊢
          have HBB := Lib.hid hbb
          clear hbb
          obtain ⟨b1, o1, hs1, he1⟩ := HTI.out (by have := NI.out; have := HN50.out; omega)
          have HE1 := Lib.hid he1
          have HS1 := Lib.hid hs1
          clear he1 hs1
          cases bb
          · have hc7 := HC6.out
            rw [if_neg (by simp)] at hc7
            have HC7 := Lib.hid hc7
            clear hc7
            clear HC6
            go_wp2_with fail
            go_loopw [8] (fun i wr => CkInv ni (fun k => ∀ (j : Nat) x, j < k → t.ins[j]? = some x → isNullIn x = false) w1 i wr) (fun i _ => ni - (intOf i).toNat)
            case atStart => exact ⟨0, by omega, rfl, fun j x hj => by omega, B.out⟩
            case round =>
              clear B
              obtain ⟨k, hk, rfl, hp, B⟩ := hrel
              have B := Lib.hid B
              have HP := Lib.hid hp
              have c1 : wr.cell? ⟨w.heap.size, 1, none⟩ = some (.slice si ni ci) := BOX.out wr B.out 1 _ rfl
              clear hp
              by_cases hlt : k < ni
              · have hkx : k < t.ins.length := by have := NI.out; omega
                have g1 := HE1.out k _ (List.getElem?_eq_getElem hkx)
                obtain ⟨x, hx⟩ : ∃ x, x = t.ins[k] := ⟨_, rfl⟩
                rw [← hx] at g1
                have hgx : t.ins[k]? = some x := by rw [hx]; exact List.getElem?_eq_getElem _
                obtain ⟨hx1, kx, hkx2, hr1⟩ := g1
                have RX := Lib.hid (in_pt (range_below hr1 B0.out))
                have LX := Lib.hid (show (ptL x.h x.n).length = 33 by rw [ptL_length, hx1.1])
                have XH := Lib.hid hx1.1
                have GX := Lib.hid hgx
                have p0 : 0 ≤ (k : Int) := by omega
                have q0 : (k : Int) < (ni : Int) := by omega
                obtain ⟨q, hq⟩ : ∃ q, q = (decide (x.h = Z) && decide (x.n = M)) := ⟨_, rfl⟩
                have HSQ : Hid (q = isNullIn x) := by show _ = _; rw [hq, isNullIn, HZM.out.1, HZM.out.2]
                have HQ := Lib.hid hq
                clear hx hgx hx1 hkx2 hr1 hq
                go_wp2_with fail
                clear c1
                refine wp_region_below (by kernel_rfl) (by kernel_rfl) wr (Below.refl _ _) ?_
                cases q
                all_goals
                  repeat (first | (go_big_quiet_want; (first | refine quiet_load_one 23 (.tmp 98) rfl w.heap.size 1 rfl (.slice (some ⟨b1, o1, none⟩) ni ci) _ (fun w' hw' => by rw [BOX.out w' (B.out.trans (hw'.mono B.out.size)) 1 _ rfl, HS1.out]) Tryd.underlying23 rfl ?_ | refine quiet_load_mid 52 (.tmp 102) rfl b1 (o1 + k * 35) rfl (ptL x.h x.n) _ (fun w' hw' => range_below (range_below RX.out B.out) hw') Tryd.underlying52 rfl (by rw [LX.out]; kernel_rfl) ?_); go_frame; go_big_quiet_on) | go_big_quiet_step ((intro hw'; first | with_reducible exact cls hw' (NR.out _) | with_reducible exact cls hw' (samept_any x.h Z x.n M XH.out HZL.out _ HQ.out _) | rfl)))
                  refine wpQuiet_nil ?_
                  intro w7 hw7
                  have B := Lib.hid (B.out.trans (hw7.mono B.out.size))
                  clear hw7
                  go_wp2_with fail
                · go_roundw
                  case rel =>
                    refine ⟨k + 1, by omega, by go_num, fun j z hj hz => ?_, B.out⟩
                    by_cases hj2 : j < k
                    · exact HP.out j z hj2 hz
                    · obtain rfl : j = k := by omega
                      have := Option.some.inj (GX.out.symm.trans hz)
                      subst this
                      exact HSQ.out.symm
                  case measure => simp [intOf]; omega
                · go_ret
                  refine ⟨?_, B0.out.trans (B.out.mono B0.out.size)⟩
                  rw [HC7.out, if_pos (any_true GX.out HSQ.out.symm)]
                  rfl
              · have hge : ¬ (k : Int) < (ni : Int) := by omega
                have HQ : Hid (c = 0) := by
                  show _ = _
                  rw [HC7.out, if_neg (by rw [any_false (fun j x hj => HP.out j x (by have := (List.getElem?_eq_some_iff.1 hj).1; have := NI.out; omega) hj)]; simp)]
                clear hlt
                go_wp2_with fail
                go_ret
                exact ⟨by rw [HQ.out]; rfl, B0.out.trans (B.out.mono B0.out.size)⟩
          · have hc7 := HC6.out
            rw [if_pos rfl] at hc7
            have HC7 := Lib.hid hc7
            clear hc7
            clear HC6
            have h1n : t.ins.length = 1 := by
              by_cases h : t.ins.length = 1
              · exact h
              · have := base_not h
                rw [← HBB.out] at this
                cases this
            have hn1 : ni = 1 := by have := NI.out; omega
            have g1 := HE1.out 0 _ (List.getElem?_eq_getElem (by omega))
            obtain ⟨x, hx⟩ : ∃ x, x = t.ins[0]'(by omega) := ⟨_, rfl⟩
            rw [← hx] at g1
            have hgx : t.ins[0]? = some x := by rw [hx]; exact List.getElem?_eq_getElem _
            obtain ⟨hx1, kx, hkx2, hr1⟩ := g1
            obtain ⟨sx, cx, hkv⟩ := hkx2.2
            have ck : w4.cell? ⟨b1, o1 + 33, none⟩ = some (.slice sx x.key.length cx) := by
              rw [← hkv]
              have := in_key hx1.1 (range_below (range_below hr1 B0.out) B.out)
              rw [Nat.zero_mul, Nat.add_zero] at this
              exact this
            have c1 : w4.cell? ⟨w.heap.size, 1, none⟩ = some (.slice (some ⟨b1, o1, none⟩) ni ci) := by rw [BOX.out w4 B.out 1 _ rfl, HS1.out]
            obtain ⟨kl, hkl⟩ : ∃ kl, kl = x.key.length := ⟨_, rfl⟩
            rw [← hkl] at ck
            have q0 : (0 : Int) < (ni : Int) := by omega
            have hany : (t.ins.any fun x => decide (x.key.length < 4)) = decide (kl < 4) := by
              obtain ⟨a, l, b, c⟩ := t
              simp only at h1n hgx
              match l, h1n, hgx with
              | [y], _, hg =>
                obtain rfl : y = x := by simpa using hg
                simp [hkl]
            have hc8 := HC7.out
            rw [hany] at hc8
            have HC7 := Lib.hid hc8
            clear hc8
            clear hx hgx hx1 hkx2 hr1 hkv hkl h1n hany
            by_cases h4 : kl < 4
            · have hle : (kl : Int) < 4 := by omega
              have HQ : Hid (c = 107) := by show _ = _; rw [HC7.out, if_pos (decide_eq_true h4)]
              clear h4 hn1
              go_wp2_with fail
              go_ret
              exact ⟨by rw [HQ.out]; rfl, B0.out.trans (B.out.mono B0.out.size)⟩
            · have hle : ¬ (kl : Int) < 4 := by omega
              have HQ : Hid (c = 0) := by show _ = _; rw [HC7.out, if_neg (by simpa using h4)]
              clear h4 hn1
              go_wp2_with fail
              go_ret
              exact ⟨by rw [HQ.out]; rfl, B0.out.trans (B.out.mono B0.out.size)⟩
end Go.Proofs.YtkabpbclmhmgfaaDoor.Sha

/-
  The statements' own 'light' tells whether a transaction is small; their own Base whether it makes coins. Nothing that was there turns. Condition: a transaction that lies in memory.
-/
namespace Go.Proofs.YtkabpbclmhmgfaaDoor.Sha
open Go Go.RowKit

/-- Small enough. -/
def lightB (t : TTx) : Bool := decide (t.ins.length ≤ 60) && (decide (t.outs.length ≤ 60) && t.ins.all fun x => decide (x.key.length ≤ 100))
theorem all_take {α : Type} {l : List α} {p : α → Bool} (h : ∀ (j : Nat) (x : α), l[j]? = some x → p x = true) : l.all p = true := by
  rw [List.all_eq_true]
  intro x hx
  obtain ⟨j, hj⟩ := List.getElem?_of_mem hx
  exact h j x hj
def LitInv (n g : Nat) (t : TTx) (ct : Array Value) (w : World) (i : Value) (wr : World) : Prop :=
  ∃ k : Nat, k ≤ n ∧ i = .int .i64 k ∧ (∀ j x, j < k → t.ins[j]? = some x → x.key.length ≤ 100) ∧ wr.heap[g]? = some (.cells ct 26 (0, 0)) ∧ Below w.heap.size w wr
set_option maxRecDepth 100000 in
theorem light_any (t : TTx) (v : Value) (w : World) (h1 : TxAt w v t) (b : Bool) (hb : b = lightB t) (hnl : t.ins.length ≤ 9223372036854775807) :
    Calls Tryd.prog 10 #[v] w fun e w' => e = .returned (.bool b) ∧ Below w.heap.size w w' := by
  obtain ⟨ht0, iv, ov, rfl, hti, hto⟩ := h1
  obtain ⟨si, ci, rfl, hci, hti⟩ := hti
  obtain ⟨so, co, rfl, hco, hto⟩ := hto
  have HB := Lib.hid hb
  have HTI := Lib.hid hti
  clear hb hti hto ht0
  obtain ⟨ni, hni⟩ : ∃ ni, ni = t.ins.length := ⟨_, rfl⟩
  obtain ⟨no, hno⟩ : ∃ no, no = t.outs.length := ⟨_, rfl⟩
  rw [← hni] at hnl
  obtain ⟨vt, hvt⟩ : ∃ vt, vt = t.ver := ⟨_, rfl⟩
  obtain ⟨tt, htt⟩ : ∃ tt, tt = t.time := ⟨_, rfl⟩
  have NI := Lib.hid hni
  have NO := Lib.hid hno
  simp only [txL, ← hni, ← hno, ← hvt, ← htt]
  clear hni hno hci hco hvt htt
  go_enter Tryd.func10, Tryd.ntmps10
  go_upto_region 1 with fail
  have F := Lib.hid (heap_alloc_new w (.cells [nV vt, .slice si ni ci, .slice so no co, nV tt].toArray 26 (0, 0)))
  have B := Lib.hid ((Below.refl w.heap.size w).alloc (Nat.le_refl _) (.cells [nV vt, .slice si ni ci, .slice so no co, nV tt].toArray 26 (0, 0)))
  generalize hw1 : World.alloc _ _ = w1
  have e1 : w.alloc (.cells [nV vt, .slice si ni ci, .slice so no co, nV tt].toArray 26 (0, 0)) = w1 := hw1
  rw [e1] at F B
  clear hw1 e1
  have c1 : w1.cell? ⟨w.heap.size, 1, none⟩ = some (.slice si ni ci) := by rw [cell_of_row _ _ _ _ _ _ F.out]; rfl
  have c2 : w1.cell? ⟨w.heap.size, 2, none⟩ = some (.slice so no co) := by rw [cell_of_row _ _ _ _ _ _ F.out]; rfl
  by_cases hi : ni ≤ 60
  case neg =>
    have h60 : (60 : Int) < (ni : Int) := by omega
    have HI := Lib.hid hi
    clear hi
    go_wp2_with fail
    go_ret
    exact ⟨by rw [HB.out, lightB, ← NI.out, decide_eq_false HI.out]; rfl, B.out⟩
  have h60 : ¬ (60 : Int) < (ni : Int) := by omega
  have h60' : decide ((60 : Int) < (ni : Int)) = false := decide_eq_false h60
  have HI := Lib.hid hi
  clear hi
  by_cases ho : no ≤ 60
  case neg =>
    have ho60 : (60 : Int) < (no : Int) := by omega
    have HO := Lib.hid ho
    clear ho
    go_wp2_with fail
    go_ret
    exact ⟨by rw [HB.out, lightB, ← NI.out, ← NO.out, decide_eq_true HI.out, decide_eq_false HO.out]; rfl, B.out⟩
  have ho60 : ¬ (60 : Int) < (no : Int) := by omega
  have HO := Lib.hid ho
  clear ho
  go_wp2_with fail
  clear c1 c2 h60 h60' ho60
  go_loopw [3] (fun i wr => LitInv ni w.heap.size t [nV vt, .slice si ni ci, .slice so no co, nV tt].toArray w i wr) (fun i _ => ni - (intOf i).toNat)
  case atStart => exact ⟨0, by omega, rfl, fun j x hj => by omega, F.out, B.out⟩
  case round =>
    clear F B
    obtain ⟨k, hk, rfl, hp, F, B⟩ := hrel
    have c1 : wr.cell? ⟨w.heap.size, 1, none⟩ = some (.slice si ni ci) := by rw [cell_of_row _ _ _ _ _ _ F]; rfl
    have HP := Lib.hid hp
    have F := Lib.hid F
    have B := Lib.hid B
    clear hp
    by_cases hlt : k < ni
    · have hkx : k < t.ins.length := by have := NI.out; omega
      obtain ⟨b1, o1, hs1, he1⟩ := HTI.out (by omega)
      have g1 := he1 k _ (List.getElem?_eq_getElem hkx)
      obtain ⟨x, hx⟩ : ∃ x, x = t.ins[k] := ⟨_, rfl⟩
      rw [← hx] at g1
      have hgx : t.ins[k]? = some x := by rw [hx]; exact List.getElem?_eq_getElem _
      obtain ⟨hx1, kx, hkx2, hr1⟩ := g1
      obtain ⟨sx, cx, hkv⟩ := hkx2.2
      have ck : wr.cell? ⟨b1, o1 + k * 35 + 33, none⟩ = some (.slice sx x.key.length cx) := by
        rw [← hkv]
        exact in_key hx1.1 (range_below hr1 B.out)
      obtain ⟨kl, hkl⟩ : ∃ kl, kl = x.key.length := ⟨_, rfl⟩
      rw [← hkl] at ck
      rw [hs1] at c1
      have p0 : 0 ≤ (k : Int) := by omega
      have q0 : (k : Int) < (ni : Int) := by omega
      have GX := Lib.hid hgx
      have KL := Lib.hid hkl
      clear hx hgx he1 hs1 hx1 hkx2 hr1 hkv hkl
      by_cases h100 : kl ≤ 100
      · have hle : ¬ (100 : Int) < (kl : Int) := by omega
        have H100 := Lib.hid h100
        clear h100
        go_wp2_with fail
        go_roundw
        case rel =>
          refine ⟨k + 1, by omega, by go_num, fun j y hj hy => ?_, F.out, B.out⟩
          by_cases hj2 : j < k
          · exact HP.out j y hj2 hy
          · obtain rfl : j = k := by omega
            have := Option.some.inj (GX.out.symm.trans hy)
            subst this
            rw [← KL.out]
            exact H100.out
        case measure => simp [intOf]; omega
      · have hle : (100 : Int) < (kl : Int) := by omega
        have H100 := Lib.hid h100
        clear h100
        go_wp2_with fail
        go_ret
        refine ⟨?_, B.out⟩
        have : (t.ins.all fun x => decide (x.key.length ≤ 100)) = false := by
          rw [List.all_eq_false]
          exact ⟨x, List.mem_of_getElem? GX.out, by rw [← KL.out]; simpa using H100.out⟩
        rw [HB.out, lightB, ← NI.out, ← NO.out, decide_eq_true HI.out, decide_eq_true HO.out, this]
        rfl
    · have hkn : k = ni := by omega
      have hge : ¬ (k : Int) < (ni : Int) := by omega
      have HE : Hid ((t.ins.all fun x => decide (x.key.length ≤ 100)) = true) := all_take (fun j x hj => decide_eq_true (HP.out j x (by have := (List.getElem?_eq_some_iff.1 hj).1; have := NI.out; omega) hj))
      clear hkn
      go_wp2_with fail
      go_ret
      exact ⟨by rw [HB.out, lightB, ← NI.out, ← NO.out, decide_eq_true HI.out, decide_eq_true HO.out, HE.out]; rfl, B.out⟩
end Go.Proofs.YtkabpbclmhmgfaaDoor.Sha

/-
  What package tx is shown to answer, call by call, as hypotheses for the statements' walks. A transaction of a few inputs and outputs is small. No conditions.
-/
namespace Go.Proofs.YtkabpbclmhmgfaaDoor.Sha
open Go Go.RowKit

/-- The errors that package tx tells are there. -/
def Er8 (w : World) (E : Nat → Addr) : Prop := ∀ i, i < 7 ∨ i = 13 → w.cell? ⟨errG.getD i 0, 0, none⟩ = some (errV E (i + 1))
theorem Er8.below {w w' : World} {E : Nat → Addr} (h : Er8 w E) (hb : Below w.heap.size w w') : Er8 w' E := fun i hi => by
  rw [hb.cell (p := ⟨errG.getD i 0, 0, none⟩) (World.block_lt_of_cell? w _ (h i hi))]
  exact h i hi
theorem Errs.e8 {w : World} {E : Nat → Addr} (h : Errs w E) : Er8 w E := fun i hi => (h.1 i (by omega)).1
theorem Er8.er {w : World} {E : Nat → Addr} (h : Er8 w E) : Er w E := ⟨h 0 (by omega), h 1 (by omega), h 3 (by omega)⟩
/-- Few enough. -/
def TxSmall (t : TTx) : Prop := TxCame t ∧ t.ins.length ≤ 1000 ∧ t.outs.length ≤ 1000 ∧ KeysLe t.ins 100000
theorem insB_bound : ∀ (l : List TIn) {n : Nat}, InsOk l → KeysLe l n → (insB l).length ≤ (49 + n) * l.length
  | [], _, _, _ => by simp [insB]
  | x :: l, n, h, hk => by
    have ih := insB_bound l (fun z hz => h z (List.mem_cons_of_mem _ hz)) (fun z hz => hk z (List.mem_cons_of_mem _ hz))
    have h1 := inB_length x (h x List.mem_cons_self)
    have h2 := lenN_bd x.key.length
    have h3 := hk x List.mem_cons_self
    simp only [insB] at ih
    simp only [insB, List.flatMap_cons, List.length_append, List.length_cons, h1, Nat.mul_add, Nat.mul_one]
    omega
theorem TxSmall.ins0 {t : TTx} (h : TxSmall t) : (insB t.ins).length ≤ 200000000 := by
  have h1 := insB_bound t.ins h.1.2.1 h.2.2.2
  have h2 := h.2.1
  have : (49 + 100000) * t.ins.length ≤ (49 + 100000) * 1000 := Nat.mul_le_mul_left _ h2
  omega
theorem TxSmall.ins {t : TTx} (h : TxSmall t) : (insB t.ins).length ≤ 17592186044416 := Nat.le_trans h.ins0 (by omega)
theorem TxSmall.outs {t : TTx} (h : TxSmall t) : (outsB t.outs).length ≤ 17592186044416 := by
  have h1 := outsB_length t.outs h.1.2.2.1
  have h2 := h.2.2.1
  omega
theorem TxSmall.len {t : TTx} (h : TxSmall t) : (txB t).length ≤ 35184372088832 := by
  have h1 := h.ins0
  have h2 := h.outs
  have h3 := lenN_bd t.ins.length
  have h4 := lenN_bd t.outs.length
  simp only [txB, List.length_append, leB_length, putL_length]
  omega
theorem TxSmall.fit {t : TTx} (h : TxSmall t) : TxFit t :=
  ⟨h.1.1, h.1.2.1, h.1.2.2.1, fun x hx => Nat.le_trans (h.2.2.2 x hx) (by omega), Nat.le_trans h.2.1 (by omega), Nat.le_trans h.2.2.1 (by omega)⟩
theorem small_of_light {t : TTx} (h : TxCame t) (hl : lightB t = true) : TxSmall t := by
  unfold lightB at hl
  simp only [Bool.and_eq_true, decide_eq_true_eq, List.all_eq_true] at hl
  obtain ⟨h1, h2, h3⟩ := hl
  exact ⟨h, by omega, by omega, fun x hx => by have := h3 x hx; omega⟩
/-- A number from 0 on as the errors' places count. -/
def checkC (t : TTx) : Nat := checkN t - 100
theorem check_num (t : TTx) : numE (checkC t) = (checkN t : Int) ∧ checkC t ≤ 25 := by
  unfold checkC checkN
  split
  · exact ⟨rfl, by omega⟩
  split
  · exact ⟨rfl, by omega⟩
  split
  · exact ⟨rfl, by omega⟩
  split
  · exact ⟨rfl, by omega⟩
  split
  · exact ⟨rfl, by omega⟩
  split
  · split <;> exact ⟨rfl, by omega⟩
  · split <;> exact ⟨rfl, by omega⟩
/-- A transaction all of whose memory is above base. -/
def BytesC : Prop := ∀ (t : TTx) (v : Value) (w : World), TxAt w v t → TxSmall t →
  Calls Tryd.prog 13 #[v] w fun e w' => ∃ v', e = .returned v' ∧ w'.ownsRow w.heap.size 5 1 v' (txB t).length ((txB t).map bV) ∧ Below w.heap.size w w'
def SizeC : Prop := ∀ (t : TTx) (v : Value) (w : World), TxAt w v t → TxSmall t →
  Calls Tryd.prog 14 #[v] w fun e w' => e = .returned (.int .i64 ((txB t).length : Int)) ∧ Below w.heap.size w w'
def BaseC : Prop := ∀ (t : TTx) (v : Value) (w : World) (b : Bool), b = baseB t → TxAt w v t → TxSmall t →
  Calls Tryd.prog 18 #[v] w fun e w' => e = .returned (.bool b) ∧ Below w.heap.size w w'
def CheckC (E : Nat → Addr) : Prop := ∀ (t : TTx) (v : Value) (w : World) (c : Nat), c = checkC t → Er8 w E → TxAt w v t → TxSmall t →
  Calls Tryd.prog 21 #[v] w fun e w' => e = .returned (errV E c) ∧ Below w.heap.size w w'
def SameC : Prop := ∀ (t u : TTx) (v v' : Value) (w : World) (b : Bool), (b = true ↔ t = u) → TxAt w v t → TxAt w v' u → TxSmall t → TxSmall u →
  Calls Tryd.prog 23 #[v, v'] w fun e w' => e = .returned (.bool b) ∧ Below w.heap.size w w'
def CloneC : Prop := ∀ (t : TTx) (v : Value) (w : World), TxAt w v t → TxSmall t →
  Calls Tryd.prog 25 #[v] w fun e w' => ∃ v', e = .returned v' ∧ TxAt w' v' t ∧ Below w.heap.size w w'
end Go.Proofs.YtkabpbclmhmgfaaDoor.Sha

/-
  What package tx is shown to answer of a transaction's digest, as a hypothesis for the statements' walks. No conditions.
-/
namespace Go.Proofs.YtkabpbclmhmgfaaDoor.Sha
open Go Go.RowKit

def IdC : Prop := ∀ (t : TTx) (v : Value) (w : World), KTab w → TxAt w v t → TxSmall t →
  Calls Tryd.prog 16 #[v] w fun e w' => e = .returned (.agg ((sha (sha (txB t))).map bV).toArray) ∧ Below w.heap.size w w'
end Go.Proofs.YtkabpbclmhmgfaaDoor.Sha

/-
  A Reader's inner call takes so many bytes, or tells that there are too few, or that an error was met; Left and Err tell what is left and the first error; Read makes a Reader. Conditions: the Reader stands as it should; the three errors are there.
-/
namespace Go.Proofs.YtkabpbclmhmgfaaDoor.Sha
open Go Go.RowKit

set_option maxRecDepth 100000 in
theorem left_any (E : Nat → Addr) (m : Nat) (bs : List UInt8) (c r : Nat) (w : World) (h : RdI E m w r bs c) :
    Calls Tryd.prog 31 #[.pointer (some ⟨r, 0, none⟩)] w fun e w' => e = .returned (.int .i64 (bs.length : Nat)) ∧ w = w' := by
  obtain ⟨v, h1, h2, h3⟩ := h
  obtain ⟨sp, n, cap, rfl, hn, _⟩ := h2.shape'
  have c0 : w.cell? ⟨r, 0, none⟩ = some (.slice sp n cap) := by rw [cell_of_row _ _ _ _ _ _ h1]; rfl
  rw [← hn]
  clear h1 h2 h3 hn
  go_enter Tryd.func31, Tryd.ntmps31
  go_wp2
  go_ret
  exact ⟨rfl, rfl⟩
set_option maxRecDepth 100000 in
theorem err_any (E : Nat → Addr) (m : Nat) (bs : List UInt8) (c r : Nat) (w : World) (h : RdI E m w r bs c) :
    Calls Tryd.prog 32 #[.pointer (some ⟨r, 0, none⟩)] w fun e w' => e = .returned (errV E c) ∧ w = w' := by
  obtain ⟨v, h1, h2, h3⟩ := h
  obtain ⟨x, hx⟩ : ∃ x, x = errV E c := ⟨_, rfl⟩
  rw [← hx] at h1 ⊢
  have c0 : w.cell? ⟨r, 1, none⟩ = some x := by rw [cell_of_row _ _ _ _ _ _ h1]; rfl
  clear h1 h2 h3 hx
  go_enter Tryd.func32, Tryd.ntmps32
  go_wp2
  go_ret
  exact ⟨rfl, rfl⟩

/-- Where an own row lies. -/
theorem own_at {w : World} {base n : Nat} {v : Value} {xs : List Value} {e : TypeId} (h : w.ownsRow base e 1 v n xs) : ∃ m, AtB v m ∧ m ≠ w.heap.size ∧ (0 < n → base ≤ m) := by
  rcases h.2 with ⟨h', h0⟩ | ⟨g, cap', cur, h', hg, hc, _⟩
  · exact ⟨w.heap.size + 1, (fun sp k cap hv hk => by rw [hv] at h'; cases h'), by omega, fun h1 => by omega⟩
  · refine ⟨g, (fun sp k cap hv hk => ?_), ?_, fun _ => hg⟩
    · rw [hv] at h'; cases h'; rfl
    · have := (Array.getElem?_eq_some_iff.1 hc).1
      omega
/-- A Reader that stands on a copy of its own. -/
def NewRd (E : Nat → Addr) (m : Nat) (w w' : World) (r : Nat) (bs : List UInt8) : Prop := RdI E m w' r bs 0 ∧ Below w.heap.size w w' ∧ w.heap.size ≤ r ∧ (bs ≠ [] → w.heap.size ≤ m)
set_option maxRecDepth 100000 in
theorem read_any (E : Nat → Addr) (bs : List UInt8) (v : Value) (w : World) (hs : SrcB w v bs) (hl : bs.length ≤ 70368744177664) :
    Calls Tryd.prog 29 #[v] w fun e w' => ∃ m r, e = .returned (.pointer (some ⟨r, 0, none⟩)) ∧ NewRd E m w w' r bs := by
  have HS := Lib.hid hs
  clear hs
  go_enter Tryd.func29, Tryd.ntmps29
  go_wp2_with fail
  refine (clone_any bs v _ HS.out hl).mono ?_
  rintro e w1 ⟨v1, rfl, h1⟩
  obtain ⟨sp1, n1, cap1, rfl, -, -⟩ := (src_own h1.1).shape'
  have H1 := Lib.hid h1
  clear h1
  go_wp2_with fail
  go_ret
  obtain ⟨m, hm1, hm3, hm2⟩ := own_at H1.out.1
  exact ⟨m, _, rfl, ⟨.slice sp1 n1 cap1, heap_alloc_new _ _, (src_own H1.out.1).below ((Below.refl _ _).alloc (Nat.le_refl _) _), hm1, hm3⟩, H1.out.2.alloc H1.out.2.size _, H1.out.2.size, fun h => hm2 (List.length_pos_iff.2 h)⟩

theorem cut_shape {v : Value} {sp : Option Addr} {l r cap : Nat} (h : Hid (v = sliced sp l r cap 1)) : ∃ x, v = .slice x (r - l) (cap - l) := ⟨_, h.out⟩
set_option maxRecDepth 100000 in
theorem take_any (E : Nat → Addr) (m : Nat) (k : Nat) (kk : Int) (hkk : kk = (k : Int)) (bs : List UInt8) (c r : Nat) (w : World) (hE : Er w E) (h : RdI E m w r bs c) (hk : k ≤ 9223372036854775807) :
    Calls Tryd.prog 79 #[.pointer (some ⟨r, 0, none⟩), .int .i64 kk] w (TakePost E m k bs c r w) := by
  subst hkk
  obtain ⟨v, h1, h2, h3⟩ := h
  obtain ⟨sp, n, cap, rfl, hn, hcap⟩ := h2.shape'
  have f0 := frozen_of_row w r 0 _ _ h1
  have f1 := frozen_of_row w r 1 _ _ h1
  have c0 : w.cell? ⟨r, 0, none⟩ = some (.slice sp n cap) := by rw [cell_of_row _ _ _ _ _ _ h1]; rfl
  have c1 : w.cell? ⟨r, 1, none⟩ = some (errV E c) := by rw [cell_of_row _ _ _ _ _ _ h1]; rfl
  have H1 := Lib.hid h1
  have H2 := Lib.hid h2
  have H3 := Lib.hid h3
  have HN := Lib.hid hn
  clear h1 h2 h3 hn
  cases c with
  | succ c =>
    have HT : Hid (takeL k bs (c + 1) = ([], bs, c + 1)) := by show _ = _; unfold takeL; rw [if_pos (by omega)]
    change _ = some (Value.iface 133 (.pointer (some (E c)))) at c1
    clear f0 f1 hE
    go_enter Tryd.func79, Tryd.ntmps79
    go_wp2_with fail
    go_ret
    refine ⟨_, rfl, ?_, apart_none _ _ _, ?_, grownBy_refl _ _⟩
    · rw [HT.out]; exact src_none _
    · rw [HT.out]; exact ⟨_, H1.out, H2.out, H3.out⟩
  | zero =>
    change _ = some Value.nilIface at c1
    by_cases hlt : n < k
    · have HT : Hid (takeL k bs 0 = ([], bs, 1)) := by show _ = _; unfold takeL; rw [if_neg (by omega), if_pos (by rw [← HN.out]; exact hlt)]
      have e1 := hE.1
      change _ = some (Value.iface 133 (.pointer (some (E 0)))) at e1
      clear f0 hE
      go_enter Tryd.func79, Tryd.ntmps79
      go_wp2_with fail
      go_ret
      obtain ⟨g1, g2⟩ := rd_err (d := 1) H1.out H2.out H3.out.1 H3.out.2
      refine ⟨_, rfl, ?_, apart_none _ _ _, ?_, g2⟩
      · rw [HT.out]; exact src_none _
      · rw [HT.out]; exact g1
    · have HT : Hid (takeL k bs 0 = (bs.take k, bs.drop k, 0)) := by show _ = _; unfold takeL; rw [if_neg (by omega), if_neg (by rw [← HN.out]; exact hlt)]
      have i1 : ¬ (n : Int) < (k : Int) := by omega
      clear f1 hE
      go_enter Tryd.func79, Tryd.ntmps79
      go_wp2_with ((with_reducible show wpList _ _ _ _ _ _); first | (refine wpList_cut_h rfl 29 (.tmp 25) (.tmp 26) rfl 5 Tryd.underlying29 (by kernel_rfl) sp n cap k rfl rfl (by omega) ?_; intro vh hvh; go_frame) | (refine wpList_cut_l rfl 29 (.tmp 32) (.tmp 33) rfl 5 Tryd.underlying29 (by kernel_rfl) sp n cap k rfl rfl (by omega) ?_; intro vl hvl; obtain ⟨xl, rfl⟩ := cut_shape hvl; go_frame))
      go_ret
      have s1 := src_sliced H2.out 0 k (by omega) (by omega)
      have s2 := src_sliced H2.out k n (by omega) (by omega)
      have a1 := apart_cut (show 0 ≤ k by omega) (show k ≤ n by omega) H3.out.1
      have a2 := apart_cut (show k ≤ n by omega) (Nat.le_refl n) H3.out.1
      rw [← hvh.out] at s1 a1
      rw [← hvl.out] at s2 a2
      rw [List.take_of_length_le (show bs.length ≤ n by rw [HN.out]; exact Nat.le_refl _)] at s2
      obtain ⟨g1, g2⟩ := rd_set H1.out s2 a2 H3.out.2
      refine ⟨_, rfl, ?_, a1, ?_, g2⟩
      · rw [HT.out]
        rw [List.drop_zero] at s1
        exact s1.grown a1 H3.out.2 g2
      · rw [HT.out]; exact g1
end Go.Proofs.YtkabpbclmhmgfaaDoor.Sha

/-
  A Reader's Num, Four, Eight, Bytes and Hash answer what the chapter says, and leave what it says. Conditions: the Reader stands as it should; the three errors are there.
-/
namespace Go.Proofs.YtkabpbclmhmgfaaDoor.Sha
open Go Go.RowKit

/-- The three errors, none of them at block r. -/
def ErR (w : World) (E : Nat → Addr) (r : Nat) : Prop := Er w E ∧ 7 ≠ r ∧ 6 ≠ r ∧ 0 ≠ r
theorem ErR.grown {w w' : World} {E : Nat → Addr} {r : Nat} (h : ErR w E r) (hg : w.grownBy w' (some r)) : ErR w' E r := by
  obtain ⟨⟨a, b, c⟩, p, q, s⟩ := h
  exact ⟨⟨hg.cell a (fun e => p (Option.some.inj e)), hg.cell b (fun e => q (Option.some.inj e)), hg.cell c (fun e => s (Option.some.inj e))⟩, p, q, s⟩
theorem ErR.below {w w' : World} {E : Nat → Addr} {r : Nat} (h : ErR w E r) (hb : Below w.heap.size w w') : ErR w' E r := ⟨h.1.below hb, h.2⟩
theorem takeL_le (k : Nat) (bs : List UInt8) (c : Nat) : (takeL k bs c).1.length ≤ k := by
  unfold takeL
  split
  · simp
  · split
    · simp
    · simp [List.length_take]; omega
def TookPost (E : Nat → Addr) (m : Nat) (x b : List UInt8) (d r : Nat) (w : World) (e : Ending) (w' : World) : Prop :=
  ∃ v, e = .returned v ∧ SrcB w' v x ∧ AtB v m ∧ RdI E m w' r b d ∧ w.grownBy w' (some r)
theorem take_is (E : Nat → Addr) (m : Nat) (k : Nat) (kk : Int) (hkk : kk = (k : Int)) (bs x b : List UInt8) (c d r : Nat) (w : World) (hE : ErR w E r) (h : RdI E m w r bs c) (hk : k ≤ 9223372036854775807) (ht : takeL k bs c = (x, b, d)) :
    Calls Tryd.prog 79 #[.pointer (some ⟨r, 0, none⟩), .int .i64 kk] w (TookPost E m x b d r w) := by
  refine (take_any E m k kk hkk bs c r w hE.1 h hk).mono fun e w' ⟨v, he, h1, h2, h3, h4⟩ => ?_
  rw [ht] at h1 h3
  exact ⟨v, he, h1, h2, h3, h4⟩
/-- What Num answers, leaves and meets. -/
def numL (most : Nat) (bs : List UInt8) (c : Nat) : Nat × List UInt8 × Nat :=
  let t := takeL 1 bs c
  let k := widN (leN t.1)
  let u := if k = 0 then t else takeL k t.2.1 t.2.2
  if u.2.2 ≠ 0 then (0, u.2.1, u.2.2) else if lenN (leN u.1) ≠ 1 + k then (0, u.2.1, 2) else if most < leN u.1 then (0, u.2.1, 4) else (leN u.1, u.2.1, 0)
def NumPost (E : Nat → Addr) (m : Nat) (n : Nat) (b : List UInt8) (d r : Nat) (w : World) (e : Ending) (w' : World) : Prop :=
  e = .returned (.int .u64 n) ∧ RdI E m w' r b d ∧ w.grownBy w' (some r)
/-- What a Reader's two cells are. -/
theorem RdI.cells {E : Nat → Addr} {m : Nat} {w : World} {r c : Nat} {bs : List UInt8} (h : RdI E m w r bs c) : w.cell? ⟨r, 1, none⟩ = some (errV E c) ∧ w.frozen? ⟨r, 1, none⟩ = false := by
  obtain ⟨v, h1, _⟩ := h
  exact ⟨by rw [cell_of_row _ _ _ _ _ _ h1]; rfl, frozen_of_row _ _ _ _ _ h1⟩
theorem RdI.met {E : Nat → Addr} {m : Nat} {w : World} {r c : Nat} {bs : List UInt8} (d : Nat) (h : RdI E m w r bs c) : RdI E m (w.setCell ⟨r, 1, none⟩ (errV E d)) r bs d ∧ w.grownBy (w.setCell ⟨r, 1, none⟩ (errV E d)) (some r) := by
  obtain ⟨v, h1, h2, h3⟩ := h
  exact rd_err h1 h2 h3.1 h3.2
theorem widN_le (n : Nat) : widN n ≤ 8 := by unfold widN; split <;> (try split) <;> (try split) <;> omega
set_option maxHeartbeats 400000 in
set_option maxRecDepth 100000 in
theorem num_aerr (E : Nat → Addr) (m : Nat) (most : Nat) (bs x b : List UInt8) (c d r : Nat) (w : World) (hE : ErR w E r) (hr : RdI E m w r bs c) (ht : takeL 1 bs c = (x, b, d)) (hk : widN (leN x) = 0) (q : Nat) (hd : d = q + 1) :
    Calls Tryd.prog 63 #[.pointer (some ⟨r, 0, none⟩), .int .u64 most] w (NumPost E m 0 b (q + 1) r w) := by
  have HE := Lib.hid hE
  have HR := Lib.hid hr
  have HT := Lib.hid ht
  have HX : Hid (x.length ≤ 1) := by have := takeL_le 1 bs c; rw [ht] at this; exact this
  have HK : Hid (((widN (leN x) : Nat) : Int) = 0) := by show _ = _; simp [hk]
  have HD := Lib.hid hd
  clear hE hr ht hk hd
  go_enter Tryd.func63, Tryd.ntmps63
  go_wp2_with fail
  refine (take_is E m 1 1 rfl bs x b c d r _ HE.out HR.out (by omega) HT.out).mono ?_
  rintro e w1 ⟨v1, rfl, s1, -, i1, g1⟩
  have S1 := Lib.hid s1
  have I1 := Lib.hid i1
  have G1 := Lib.hid g1
  clear s1 i1 g1
  go_wp2_with fail
  refine (number_any x v1 _ S1.out (by have := HX.out; omega)).mono ?_
  rintro e w' ⟨rfl, rfl⟩
  go_wp2_with fail
  refine (width_any (leN x) 0 _ HK.out).mono ?_
  rintro e w' ⟨rfl, rfl⟩
  have hc1 := I1.out.cells.1
  rw [HD.out] at hc1
  change _ = some (Value.iface 133 (.pointer (some (E q)))) at hc1
  go_wp2_with fail
  go_ret
  exact ⟨rfl, by rw [← HD.out]; exact I1.out, G1.out⟩
set_option maxHeartbeats 400000 in
set_option maxRecDepth 100000 in
theorem num_ashape (E : Nat → Addr) (m : Nat) (most : Nat) (bs x b : List UInt8) (c d r : Nat) (w : World) (hE : ErR w E r) (hr : RdI E m w r bs c) (ht : takeL 1 bs c = (x, b, d)) (hk : widN (leN x) = 0) (hd : d = 0) (hl : lenN (leN x) ≠ 1) :
    Calls Tryd.prog 63 #[.pointer (some ⟨r, 0, none⟩), .int .u64 most] w (NumPost E m 0 b 2 r w) := by
  have HE := Lib.hid hE
  have HR := Lib.hid hr
  have HT := Lib.hid ht
  have HX : Hid (x.length ≤ 1) := by have := takeL_le 1 bs c; rw [ht] at this; exact this
  have HK : Hid (((widN (leN x) : Nat) : Int) = 0) := by show _ = _; simp [hk]
  have HD := Lib.hid hd
  clear hE hr ht hk hd
  obtain ⟨L, hL⟩ : ∃ L : Int, L = ((lenN (leN x) : Nat) : Int) := ⟨_, rfl⟩
  have hne : (L == 1) = false := by rw [beq_eq_false_iff_ne, hL]; intro e; exact hl (by omega)
  have hne' : (L != 1) = true := by simp [bne, hne]
  have HL : Hid (((lenN (leN x) : Nat) : Int) = L) := hL.symm
  clear hL hl
  go_enter Tryd.func63, Tryd.ntmps63
  go_wp2_with fail
  refine (take_is E m 1 1 rfl bs x b c d r _ HE.out HR.out (by omega) HT.out).mono ?_
  rintro e w1 ⟨v1, rfl, s1, -, i1, g1⟩
  have S1 := Lib.hid s1
  have I1 := Lib.hid i1
  have G1 := Lib.hid g1
  clear s1 i1 g1
  go_wp2_with fail
  refine (number_any x v1 _ S1.out (by have := HX.out; omega)).mono ?_
  rintro e w' ⟨rfl, rfl⟩
  go_wp2_with fail
  refine (width_any (leN x) 0 _ HK.out).mono ?_
  rintro e w' ⟨rfl, rfl⟩
  have hc1 := I1.out.cells.1
  have hf1 := I1.out.cells.2
  rw [HD.out] at hc1
  change _ = some Value.nilIface at hc1
  have he := (HE.out.grown G1.out).1.2.1
  change _ = some (Value.iface 133 (.pointer (some (E 1)))) at he
  go_wp2_with (go_at_call 41; refine (len_is (leN x) (L) _ HL.out).mono ?_; rintro e w' ⟨rfl, rfl⟩)
  go_ret
  obtain ⟨m1, m2⟩ := I1.out.met 2
  exact ⟨rfl, m1, grownBy_trans G1.out m2⟩
set_option maxHeartbeats 400000 in
set_option maxRecDepth 100000 in
theorem num_amany (E : Nat → Addr) (m : Nat) (most : Nat) (bs x b : List UInt8) (c d r : Nat) (w : World) (hE : ErR w E r) (hr : RdI E m w r bs c) (ht : takeL 1 bs c = (x, b, d)) (hk : widN (leN x) = 0) (hd : d = 0) (hl : lenN (leN x) = 1) (hm : most < leN x) :
    Calls Tryd.prog 63 #[.pointer (some ⟨r, 0, none⟩), .int .u64 most] w (NumPost E m 0 b 4 r w) := by
  have HE := Lib.hid hE
  have HR := Lib.hid hr
  have HT := Lib.hid ht
  have HX : Hid (x.length ≤ 1) := by have := takeL_le 1 bs c; rw [ht] at this; exact this
  have HK : Hid (((widN (leN x) : Nat) : Int) = 0) := by show _ = _; simp [hk]
  have HD := Lib.hid hd
  clear hE hr ht hk hd
  have HL : Hid (((lenN (leN x) : Nat) : Int) = 1) := by show _ = _; rw [hl]; first | rfl | simp
  clear hl
  have hmi : (most : Int) < ((leN x : Nat) : Int) := by omega
  go_enter Tryd.func63, Tryd.ntmps63
  go_wp2_with fail
  refine (take_is E m 1 1 rfl bs x b c d r _ HE.out HR.out (by omega) HT.out).mono ?_
  rintro e w1 ⟨v1, rfl, s1, -, i1, g1⟩
  have S1 := Lib.hid s1
  have I1 := Lib.hid i1
  have G1 := Lib.hid g1
  clear s1 i1 g1
  go_wp2_with fail
  refine (number_any x v1 _ S1.out (by have := HX.out; omega)).mono ?_
  rintro e w' ⟨rfl, rfl⟩
  go_wp2_with fail
  refine (width_any (leN x) 0 _ HK.out).mono ?_
  rintro e w' ⟨rfl, rfl⟩
  have hc1 := I1.out.cells.1
  have hf1 := I1.out.cells.2
  rw [HD.out] at hc1
  change _ = some Value.nilIface at hc1
  have he := (HE.out.grown G1.out).1.2.2
  change _ = some (Value.iface 133 (.pointer (some (E 3)))) at he
  go_wp2_with (go_at_call 41; refine (len_is (leN x) (1) _ HL.out).mono ?_; rintro e w' ⟨rfl, rfl⟩)
  go_ret
  obtain ⟨m1, m2⟩ := I1.out.met 4
  exact ⟨rfl, m1, grownBy_trans G1.out m2⟩
set_option maxHeartbeats 400000 in
set_option maxRecDepth 100000 in
theorem num_afine (E : Nat → Addr) (m : Nat) (most : Nat) (bs x b : List UInt8) (c d r : Nat) (w : World) (hE : ErR w E r) (hr : RdI E m w r bs c) (ht : takeL 1 bs c = (x, b, d)) (hk : widN (leN x) = 0) (hd : d = 0) (hl : lenN (leN x) = 1) (hm : ¬ most < leN x) :
    Calls Tryd.prog 63 #[.pointer (some ⟨r, 0, none⟩), .int .u64 most] w (NumPost E m (leN x) b 0 r w) := by
  have HE := Lib.hid hE
  have HR := Lib.hid hr
  have HT := Lib.hid ht
  have HX : Hid (x.length ≤ 1) := by have := takeL_le 1 bs c; rw [ht] at this; exact this
  have HK : Hid (((widN (leN x) : Nat) : Int) = 0) := by show _ = _; simp [hk]
  have HD := Lib.hid hd
  clear hE hr ht hk hd
  have HL : Hid (((lenN (leN x) : Nat) : Int) = 1) := by show _ = _; rw [hl]; first | rfl | simp
  clear hl
  have hmi : ¬ (most : Int) < ((leN x : Nat) : Int) := by omega
  go_enter Tryd.func63, Tryd.ntmps63
  go_wp2_with fail
  refine (take_is E m 1 1 rfl bs x b c d r _ HE.out HR.out (by omega) HT.out).mono ?_
  rintro e w1 ⟨v1, rfl, s1, -, i1, g1⟩
  have S1 := Lib.hid s1
  have I1 := Lib.hid i1
  have G1 := Lib.hid g1
  clear s1 i1 g1
  go_wp2_with fail
  refine (number_any x v1 _ S1.out (by have := HX.out; omega)).mono ?_
  rintro e w' ⟨rfl, rfl⟩
  go_wp2_with fail
  refine (width_any (leN x) 0 _ HK.out).mono ?_
  rintro e w' ⟨rfl, rfl⟩
  have hc1 := I1.out.cells.1
  have hf1 := I1.out.cells.2
  rw [HD.out] at hc1
  change _ = some Value.nilIface at hc1
  go_wp2_with (go_at_call 41; refine (len_is (leN x) (1) _ HL.out).mono ?_; rintro e w' ⟨rfl, rfl⟩)
  go_ret
  exact ⟨rfl, by rw [← HD.out]; exact I1.out, G1.out⟩
set_option maxHeartbeats 400000 in
set_option maxRecDepth 100000 in
theorem num_berr (E : Nat → Addr) (m : Nat) (most : Nat) (bs x b : List UInt8) (c d r : Nat) (w : World) (hE : ErR w E r) (hr : RdI E m w r bs c) (ht : takeL 1 bs c = (x, b, d)) (k : Nat) (hk : widN (leN x) = k) (hk0 : 0 < k) (x2 b2 : List UInt8) (d2 : Nat) (ht2 : takeL k b d = (x2, b2, d2)) (q : Nat) (hd : d2 = q + 1) :
    Calls Tryd.prog 63 #[.pointer (some ⟨r, 0, none⟩), .int .u64 most] w (NumPost E m 0 b2 (q + 1) r w) := by
  have HE := Lib.hid hE
  have HR := Lib.hid hr
  have HT := Lib.hid ht
  have HX : Hid (x.length ≤ 1) := by have := takeL_le 1 bs c; rw [ht] at this; exact this
  have HK : Hid (((widN (leN x) : Nat) : Int) = (k : Int)) := by show _ = _; simp [hk]
  have hk8 : k ≤ 8 := by rw [← hk]; exact widN_le _
  have HT2 := Lib.hid ht2
  have HX2 : Hid (x2.length ≤ k) := by have := takeL_le k b d; rw [ht2] at this; exact this
  have hki : (0 : Int) < (k : Int) := by omega
  clear ht2
  have HD := Lib.hid hd
  clear hE hr ht hk hd
  go_enter Tryd.func63, Tryd.ntmps63
  go_wp2_with fail
  refine (take_is E m 1 1 rfl bs x b c d r _ HE.out HR.out (by omega) HT.out).mono ?_
  rintro e w1 ⟨v1, rfl, s1, -, i1, g1⟩
  have S1 := Lib.hid s1
  have I1 := Lib.hid i1
  have G1 := Lib.hid g1
  clear s1 i1 g1
  go_wp2_with fail
  refine (number_any x v1 _ S1.out (by have := HX.out; omega)).mono ?_
  rintro e w' ⟨rfl, rfl⟩
  go_wp2_with fail
  refine (width_any (leN x) (k : Int) _ HK.out).mono ?_
  rintro e w' ⟨rfl, rfl⟩
  go_wp2_with fail
  refine (take_is E m k k rfl b x2 b2 d d2 r _ (HE.out.grown G1.out) I1.out (by omega) HT2.out).mono ?_
  rintro e w2 ⟨v2, rfl, s2, -, i2, g2⟩
  have S2 := Lib.hid s2
  have I2 := Lib.hid i2
  have G2 := Lib.hid (grownBy_trans G1.out g2)
  clear s2 i2 g2
  go_wp2_with fail
  refine (number_any x2 v2 _ S2.out (by have := HX2.out; omega)).mono ?_
  rintro e w' ⟨rfl, rfl⟩
  have hc1 := I2.out.cells.1
  rw [HD.out] at hc1
  change _ = some (Value.iface 133 (.pointer (some (E q)))) at hc1
  go_wp2_with fail
  go_ret
  exact ⟨rfl, by rw [← HD.out]; exact I2.out, G2.out⟩
set_option maxHeartbeats 400000 in
set_option maxRecDepth 100000 in
theorem num_bshape (E : Nat → Addr) (m : Nat) (most : Nat) (bs x b : List UInt8) (c d r : Nat) (w : World) (hE : ErR w E r) (hr : RdI E m w r bs c) (ht : takeL 1 bs c = (x, b, d)) (k : Nat) (hk : widN (leN x) = k) (hk0 : 0 < k) (x2 b2 : List UInt8) (d2 : Nat) (ht2 : takeL k b d = (x2, b2, d2)) (hd : d2 = 0) (hl : lenN (leN x2) ≠ 1 + k) :
    Calls Tryd.prog 63 #[.pointer (some ⟨r, 0, none⟩), .int .u64 most] w (NumPost E m 0 b2 2 r w) := by
  have HE := Lib.hid hE
  have HR := Lib.hid hr
  have HT := Lib.hid ht
  have HX : Hid (x.length ≤ 1) := by have := takeL_le 1 bs c; rw [ht] at this; exact this
  have HK : Hid (((widN (leN x) : Nat) : Int) = (k : Int)) := by show _ = _; simp [hk]
  have hk8 : k ≤ 8 := by rw [← hk]; exact widN_le _
  have HT2 := Lib.hid ht2
  have HX2 : Hid (x2.length ≤ k) := by have := takeL_le k b d; rw [ht2] at this; exact this
  have hki : (0 : Int) < (k : Int) := by omega
  clear ht2
  have HD := Lib.hid hd
  clear hE hr ht hk hd
  obtain ⟨L, hL⟩ : ∃ L : Int, L = ((lenN (leN x2) : Nat) : Int) := ⟨_, rfl⟩
  have hne : (L == 1 + (k : Int)) = false := by rw [beq_eq_false_iff_ne, hL]; intro e; exact hl (by omega)
  have hne' : (L != 1 + (k : Int)) = true := by simp [bne, hne]
  have HL : Hid (((lenN (leN x2) : Nat) : Int) = L) := hL.symm
  clear hL hl
  go_enter Tryd.func63, Tryd.ntmps63
  go_wp2_with fail
  refine (take_is E m 1 1 rfl bs x b c d r _ HE.out HR.out (by omega) HT.out).mono ?_
  rintro e w1 ⟨v1, rfl, s1, -, i1, g1⟩
  have S1 := Lib.hid s1
  have I1 := Lib.hid i1
  have G1 := Lib.hid g1
  clear s1 i1 g1
  go_wp2_with fail
  refine (number_any x v1 _ S1.out (by have := HX.out; omega)).mono ?_
  rintro e w' ⟨rfl, rfl⟩
  go_wp2_with fail
  refine (width_any (leN x) (k : Int) _ HK.out).mono ?_
  rintro e w' ⟨rfl, rfl⟩
  go_wp2_with fail
  refine (take_is E m k k rfl b x2 b2 d d2 r _ (HE.out.grown G1.out) I1.out (by omega) HT2.out).mono ?_
  rintro e w2 ⟨v2, rfl, s2, -, i2, g2⟩
  have S2 := Lib.hid s2
  have I2 := Lib.hid i2
  have G2 := Lib.hid (grownBy_trans G1.out g2)
  clear s2 i2 g2
  go_wp2_with fail
  refine (number_any x2 v2 _ S2.out (by have := HX2.out; omega)).mono ?_
  rintro e w' ⟨rfl, rfl⟩
  have hc1 := I2.out.cells.1
  have hf1 := I2.out.cells.2
  rw [HD.out] at hc1
  change _ = some Value.nilIface at hc1
  have he := (HE.out.grown G2.out).1.2.1
  change _ = some (Value.iface 133 (.pointer (some (E 1)))) at he
  go_wp2_with (go_at_call 41; refine (len_is (leN x2) (L) _ HL.out).mono ?_; rintro e w' ⟨rfl, rfl⟩)
  go_ret
  obtain ⟨m1, m2⟩ := I2.out.met 2
  exact ⟨rfl, m1, grownBy_trans G2.out m2⟩
set_option maxHeartbeats 400000 in
set_option maxRecDepth 100000 in
theorem num_bmany (E : Nat → Addr) (m : Nat) (most : Nat) (bs x b : List UInt8) (c d r : Nat) (w : World) (hE : ErR w E r) (hr : RdI E m w r bs c) (ht : takeL 1 bs c = (x, b, d)) (k : Nat) (hk : widN (leN x) = k) (hk0 : 0 < k) (x2 b2 : List UInt8) (d2 : Nat) (ht2 : takeL k b d = (x2, b2, d2)) (hd : d2 = 0) (hl : lenN (leN x2) = 1 + k) (hm : most < leN x2) :
    Calls Tryd.prog 63 #[.pointer (some ⟨r, 0, none⟩), .int .u64 most] w (NumPost E m 0 b2 4 r w) := by
  have HE := Lib.hid hE
  have HR := Lib.hid hr
  have HT := Lib.hid ht
  have HX : Hid (x.length ≤ 1) := by have := takeL_le 1 bs c; rw [ht] at this; exact this
  have HK : Hid (((widN (leN x) : Nat) : Int) = (k : Int)) := by show _ = _; simp [hk]
  have hk8 : k ≤ 8 := by rw [← hk]; exact widN_le _
  have HT2 := Lib.hid ht2
  have HX2 : Hid (x2.length ≤ k) := by have := takeL_le k b d; rw [ht2] at this; exact this
  have hki : (0 : Int) < (k : Int) := by omega
  clear ht2
  have HD := Lib.hid hd
  clear hE hr ht hk hd
  have HL : Hid (((lenN (leN x2) : Nat) : Int) = 1 + (k : Int)) := by show _ = _; rw [hl]; first | rfl | simp
  clear hl
  have hmi : (most : Int) < ((leN x2 : Nat) : Int) := by omega
  go_enter Tryd.func63, Tryd.ntmps63
  go_wp2_with fail
  refine (take_is E m 1 1 rfl bs x b c d r _ HE.out HR.out (by omega) HT.out).mono ?_
  rintro e w1 ⟨v1, rfl, s1, -, i1, g1⟩
  have S1 := Lib.hid s1
  have I1 := Lib.hid i1
  have G1 := Lib.hid g1
  clear s1 i1 g1
  go_wp2_with fail
  refine (number_any x v1 _ S1.out (by have := HX.out; omega)).mono ?_
  rintro e w' ⟨rfl, rfl⟩
  go_wp2_with fail
  refine (width_any (leN x) (k : Int) _ HK.out).mono ?_
  rintro e w' ⟨rfl, rfl⟩
  go_wp2_with fail
  refine (take_is E m k k rfl b x2 b2 d d2 r _ (HE.out.grown G1.out) I1.out (by omega) HT2.out).mono ?_
  rintro e w2 ⟨v2, rfl, s2, -, i2, g2⟩
  have S2 := Lib.hid s2
  have I2 := Lib.hid i2
  have G2 := Lib.hid (grownBy_trans G1.out g2)
  clear s2 i2 g2
  go_wp2_with fail
  refine (number_any x2 v2 _ S2.out (by have := HX2.out; omega)).mono ?_
  rintro e w' ⟨rfl, rfl⟩
  have hc1 := I2.out.cells.1
  have hf1 := I2.out.cells.2
  rw [HD.out] at hc1
  change _ = some Value.nilIface at hc1
  have he := (HE.out.grown G2.out).1.2.2
  change _ = some (Value.iface 133 (.pointer (some (E 3)))) at he
  go_wp2_with (go_at_call 41; refine (len_is (leN x2) (1 + (k : Int)) _ HL.out).mono ?_; rintro e w' ⟨rfl, rfl⟩)
  go_ret
  obtain ⟨m1, m2⟩ := I2.out.met 4
  exact ⟨rfl, m1, grownBy_trans G2.out m2⟩
set_option maxHeartbeats 400000 in
set_option maxRecDepth 100000 in
theorem num_bfine (E : Nat → Addr) (m : Nat) (most : Nat) (bs x b : List UInt8) (c d r : Nat) (w : World) (hE : ErR w E r) (hr : RdI E m w r bs c) (ht : takeL 1 bs c = (x, b, d)) (k : Nat) (hk : widN (leN x) = k) (hk0 : 0 < k) (x2 b2 : List UInt8) (d2 : Nat) (ht2 : takeL k b d = (x2, b2, d2)) (hd : d2 = 0) (hl : lenN (leN x2) = 1 + k) (hm : ¬ most < leN x2) :
    Calls Tryd.prog 63 #[.pointer (some ⟨r, 0, none⟩), .int .u64 most] w (NumPost E m (leN x2) b2 0 r w) := by
  have HE := Lib.hid hE
  have HR := Lib.hid hr
  have HT := Lib.hid ht
  have HX : Hid (x.length ≤ 1) := by have := takeL_le 1 bs c; rw [ht] at this; exact this
  have HK : Hid (((widN (leN x) : Nat) : Int) = (k : Int)) := by show _ = _; simp [hk]
  have hk8 : k ≤ 8 := by rw [← hk]; exact widN_le _
  have HT2 := Lib.hid ht2
  have HX2 : Hid (x2.length ≤ k) := by have := takeL_le k b d; rw [ht2] at this; exact this
  have hki : (0 : Int) < (k : Int) := by omega
  clear ht2
  have HD := Lib.hid hd
  clear hE hr ht hk hd
  have HL : Hid (((lenN (leN x2) : Nat) : Int) = 1 + (k : Int)) := by show _ = _; rw [hl]; first | rfl | simp
  clear hl
  have hmi : ¬ (most : Int) < ((leN x2 : Nat) : Int) := by omega
  go_enter Tryd.func63, Tryd.ntmps63
  go_wp2_with fail
  refine (take_is E m 1 1 rfl bs x b c d r _ HE.out HR.out (by omega) HT.out).mono ?_
  rintro e w1 ⟨v1, rfl, s1, -, i1, g1⟩
  have S1 := Lib.hid s1
  have I1 := Lib.hid i1
  have G1 := Lib.hid g1
  clear s1 i1 g1
  go_wp2_with fail
  refine (number_any x v1 _ S1.out (by have := HX.out; omega)).mono ?_
  rintro e w' ⟨rfl, rfl⟩
  go_wp2_with fail
  refine (width_any (leN x) (k : Int) _ HK.out).mono ?_
  rintro e w' ⟨rfl, rfl⟩
  go_wp2_with fail
  refine (take_is E m k k rfl b x2 b2 d d2 r _ (HE.out.grown G1.out) I1.out (by omega) HT2.out).mono ?_
  rintro e w2 ⟨v2, rfl, s2, -, i2, g2⟩
  have S2 := Lib.hid s2
  have I2 := Lib.hid i2
  have G2 := Lib.hid (grownBy_trans G1.out g2)
  clear s2 i2 g2
  go_wp2_with fail
  refine (number_any x2 v2 _ S2.out (by have := HX2.out; omega)).mono ?_
  rintro e w' ⟨rfl, rfl⟩
  have hc1 := I2.out.cells.1
  have hf1 := I2.out.cells.2
  rw [HD.out] at hc1
  change _ = some Value.nilIface at hc1
  go_wp2_with (go_at_call 41; refine (len_is (leN x2) (1 + (k : Int)) _ HL.out).mono ?_; rintro e w' ⟨rfl, rfl⟩)
  go_ret
  exact ⟨rfl, by rw [← HD.out]; exact I2.out, G2.out⟩
theorem num_any (E : Nat → Addr) (m : Nat) (most : Nat) (bs : List UInt8) (c r : Nat) (w : World) (hE : ErR w E r) (hr : RdI E m w r bs c) :
    Calls Tryd.prog 63 #[.pointer (some ⟨r, 0, none⟩), .int .u64 most] w (NumPost E m (numL most bs c).1 (numL most bs c).2.1 (numL most bs c).2.2 r w) := by
  obtain ⟨x, b, d, ht⟩ : ∃ x b d, takeL 1 bs c = (x, b, d) := ⟨_, _, _, rfl⟩
  obtain ⟨k, hk⟩ : ∃ k, widN (leN x) = k := ⟨_, rfl⟩
  unfold numL
  simp only [ht, hk]
  by_cases hk0 : k = 0
  · subst hk0
    simp only [if_pos]
    cases hd : d with
    | succ q => exact num_aerr E m most bs x b c d r w hE hr ht hk q hd
    | zero =>
      rw [if_neg (by omega)]
      by_cases hl : lenN (leN x) = 1
      · rw [if_neg (by omega)]
        by_cases hm : most < leN x
        · rw [if_pos hm]; exact num_amany E m most bs x b c d r w hE hr ht hk hd hl hm
        · rw [if_neg hm]; exact num_afine E m most bs x b c d r w hE hr ht hk hd hl hm
      · rw [if_pos (by omega)]; exact num_ashape E m most bs x b c d r w hE hr ht hk hd hl
  · rw [if_neg hk0]
    obtain ⟨x2, b2, d2, ht2⟩ : ∃ x b' d', takeL k b d = (x, b', d') := ⟨_, _, _, rfl⟩
    simp only [ht2]
    cases hd : d2 with
    | succ q => exact num_berr E m most bs x b c d r w hE hr ht k hk (by omega) x2 b2 d2 ht2 q hd
    | zero =>
      rw [if_neg (by omega)]
      by_cases hl : lenN (leN x2) = 1 + k
      · rw [if_neg (by omega)]
        by_cases hm : most < leN x2
        · rw [if_pos hm]; exact num_bmany E m most bs x b c d r w hE hr ht k hk (by omega) x2 b2 d2 ht2 hd hl hm
        · rw [if_neg hm]; exact num_bfine E m most bs x b c d r w hE hr ht k hk (by omega) x2 b2 d2 ht2 hd hl hm
      · rw [if_pos (by omega)]; exact num_bshape E m most bs x b c d r w hE hr ht k hk (by omega) x2 b2 d2 ht2 hd hl
end Go.Proofs.YtkabpbclmhmgfaaDoor.Sha
