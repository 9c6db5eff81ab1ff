/-
  The statements' own 'light' tells whether a transaction is small; their own Base whether it makes coins. Nothing that was there turns. Condition: a transaction that lies in memory.
-/
import Derived.Test.YtkabpbclmhmgfaaTxSame2
namespace Go.Proofs.Ytkabpbclmhmgfaa.Sha
open Go Go.RowKit

/-- Small enough. -/
def lightB (t : TTx) : Bool := decide (t.ins.length ≤ 60) && (decide (t.outs.length ≤ 60) && t.ins.all fun x => decide (x.key.length ≤ 100))
theorem all_take {α : Type} {l : List α} {p : α → Bool} (h : ∀ (j : Nat) (x : α), l[j]? = some x → p x = true) : l.all p = true := by
  rw [List.all_eq_true]
  intro x hx
  obtain ⟨j, hj⟩ := List.getElem?_of_mem hx
  exact h j x hj
def LitInv (n g : Nat) (t : TTx) (ct : Array Value) (w : World) (i : Value) (wr : World) : Prop :=
  ∃ k : Nat, k ≤ n ∧ i = .int .i64 k ∧ (∀ j x, j < k → t.ins[j]? = some x → x.key.length ≤ 100) ∧ wr.heap[g]? = some (.cells ct 26 (0, 0)) ∧ Below w.heap.size w wr
set_option maxRecDepth 100000 in
theorem light_any (t : TTx) (v : Value) (w : World) (h1 : TxAt w v t) (b : Bool) (hb : b = lightB t) (hnl : t.ins.length ≤ 9223372036854775807) :
    Calls Try.prog 5 #[v] w fun e w' => e = .returned (.bool b) ∧ Below w.heap.size w w' := by
  obtain ⟨ht0, iv, ov, rfl, hti, hto⟩ := h1
  obtain ⟨si, ci, rfl, hci, hti⟩ := hti
  obtain ⟨so, co, rfl, hco, hto⟩ := hto
  have HB := Lib.hid hb
  have HTI := Lib.hid hti
  clear hb hti hto ht0
  obtain ⟨ni, hni⟩ : ∃ ni, ni = t.ins.length := ⟨_, rfl⟩
  obtain ⟨no, hno⟩ : ∃ no, no = t.outs.length := ⟨_, rfl⟩
  rw [← hni] at hnl
  obtain ⟨vt, hvt⟩ : ∃ vt, vt = t.ver := ⟨_, rfl⟩
  obtain ⟨tt, htt⟩ : ∃ tt, tt = t.time := ⟨_, rfl⟩
  have NI := Lib.hid hni
  have NO := Lib.hid hno
  simp only [txL, ← hni, ← hno, ← hvt, ← htt]
  clear hni hno hci hco hvt htt
  go_enter Try.func5, Try.ntmps5
  go_upto_region 1 with fail
  have F := Lib.hid (heap_alloc_new w (.cells [nV vt, .slice si ni ci, .slice so no co, nV tt].toArray 26 (0, 0)))
  have B := Lib.hid ((Below.refl w.heap.size w).alloc (Nat.le_refl _) (.cells [nV vt, .slice si ni ci, .slice so no co, nV tt].toArray 26 (0, 0)))
  generalize hw1 : World.alloc _ _ = w1
  have e1 : w.alloc (.cells [nV vt, .slice si ni ci, .slice so no co, nV tt].toArray 26 (0, 0)) = w1 := hw1
  rw [e1] at F B
  clear hw1 e1
  have c1 : w1.cell? ⟨w.heap.size, 1, none⟩ = some (.slice si ni ci) := by rw [cell_of_row _ _ _ _ _ _ F.out]; rfl
  have c2 : w1.cell? ⟨w.heap.size, 2, none⟩ = some (.slice so no co) := by rw [cell_of_row _ _ _ _ _ _ F.out]; rfl
  by_cases hi : ni ≤ 60
  case neg =>
    have h60 : (60 : Int) < (ni : Int) := by omega
    have HI := Lib.hid hi
    clear hi
    go_wp2_with fail
    go_ret
    exact ⟨by rw [HB.out, lightB, ← NI.out, decide_eq_false HI.out]; rfl, B.out⟩
  have h60 : ¬ (60 : Int) < (ni : Int) := by omega
  have h60' : decide ((60 : Int) < (ni : Int)) = false := decide_eq_false h60
  have HI := Lib.hid hi
  clear hi
  by_cases ho : no ≤ 60
  case neg =>
    have ho60 : (60 : Int) < (no : Int) := by omega
    have HO := Lib.hid ho
    clear ho
    go_wp2_with fail
    go_ret
    exact ⟨by rw [HB.out, lightB, ← NI.out, ← NO.out, decide_eq_true HI.out, decide_eq_false HO.out]; rfl, B.out⟩
  have ho60 : ¬ (60 : Int) < (no : Int) := by omega
  have HO := Lib.hid ho
  clear ho
  go_wp2_with fail
  clear c1 c2 h60 h60' ho60
  go_loopw [3] (fun i wr => LitInv ni w.heap.size t [nV vt, .slice si ni ci, .slice so no co, nV tt].toArray w i wr) (fun i _ => ni - (intOf i).toNat)
  case atStart => exact ⟨0, by omega, rfl, fun j x hj => by omega, F.out, B.out⟩
  case round =>
    clear F B
    obtain ⟨k, hk, rfl, hp, F, B⟩ := hrel
    have c1 : wr.cell? ⟨w.heap.size, 1, none⟩ = some (.slice si ni ci) := by rw [cell_of_row _ _ _ _ _ _ F]; rfl
    have HP := Lib.hid hp
    have F := Lib.hid F
    have B := Lib.hid B
    clear hp
    by_cases hlt : k < ni
    · have hkx : k < t.ins.length := by have := NI.out; omega
      obtain ⟨b1, o1, hs1, he1⟩ := HTI.out (by omega)
      have g1 := he1 k _ (List.getElem?_eq_getElem hkx)
      obtain ⟨x, hx⟩ : ∃ x, x = t.ins[k] := ⟨_, rfl⟩
      rw [← hx] at g1
      have hgx : t.ins[k]? = some x := by rw [hx]; exact List.getElem?_eq_getElem _
      obtain ⟨hx1, kx, hkx2, hr1⟩ := g1
      obtain ⟨sx, cx, hkv⟩ := hkx2.2
      have ck : wr.cell? ⟨b1, o1 + k * 35 + 33, none⟩ = some (.slice sx x.key.length cx) := by
        rw [← hkv]
        exact in_key hx1.1 (range_below hr1 B.out)
      obtain ⟨kl, hkl⟩ : ∃ kl, kl = x.key.length := ⟨_, rfl⟩
      rw [← hkl] at ck
      rw [hs1] at c1
      have p0 : 0 ≤ (k : Int) := by omega
      have q0 : (k : Int) < (ni : Int) := by omega
      have GX := Lib.hid hgx
      have KL := Lib.hid hkl
      clear hx hgx he1 hs1 hx1 hkx2 hr1 hkv hkl
      by_cases h100 : kl ≤ 100
      · have hle : ¬ (100 : Int) < (kl : Int) := by omega
        have H100 := Lib.hid h100
        clear h100
        go_wp2_with fail
        go_roundw
        case rel =>
          refine ⟨k + 1, by omega, by go_num, fun j y hj hy => ?_, F.out, B.out⟩
          by_cases hj2 : j < k
          · exact HP.out j y hj2 hy
          · obtain rfl : j = k := by omega
            have := Option.some.inj (GX.out.symm.trans hy)
            subst this
            rw [← KL.out]
            exact H100.out
        case measure => simp [intOf]; omega
      · have hle : (100 : Int) < (kl : Int) := by omega
        have H100 := Lib.hid h100
        clear h100
        go_wp2_with fail
        go_ret
        refine ⟨?_, B.out⟩
        have : (t.ins.all fun x => decide (x.key.length ≤ 100)) = false := by
          rw [List.all_eq_false]
          exact ⟨x, List.mem_of_getElem? GX.out, by rw [← KL.out]; simpa using H100.out⟩
        rw [HB.out, lightB, ← NI.out, ← NO.out, decide_eq_true HI.out, decide_eq_true HO.out, this]
        rfl
    · have hkn : k = ni := by omega
      have hge : ¬ (k : Int) < (ni : Int) := by omega
      have HE : Hid ((t.ins.all fun x => decide (x.key.length ≤ 100)) = true) := all_take (fun j x hj => decide_eq_true (HP.out j x (by have := (List.getElem?_eq_some_iff.1 hj).1; have := NI.out; omega) hj))
      clear hkn
      go_wp2_with fail
      go_ret
      exact ⟨by rw [HB.out, lightB, ← NI.out, ← NO.out, decide_eq_true HI.out, decide_eq_true HO.out, HE.out]; rfl, B.out⟩
end Go.Proofs.Ytkabpbclmhmgfaa.Sha
