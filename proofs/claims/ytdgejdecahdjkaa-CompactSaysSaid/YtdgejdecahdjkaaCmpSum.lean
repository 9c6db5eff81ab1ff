/-
  compact.Sum and the statements' own Sum answer the amounts added, or that this is none; nothing is written. Condition: the amounts lie where the slice says.
-/
import Derived.Test.YtdgejdecahdjkaaCmpLib
namespace Go.Proofs.Ytdgejdecahdjkaa.Sha
open Go Go.RowKit

/-- The sum's two answers. -/
def sumV (l : List Nat) : Value := .tuple #[.int .u64 (sumL l : Nat), .bool (sumIs l)]
theorem sumV_yes {l : List Nat} (h : l.sum ≤ most) : sumV l = .tuple #[.int .u64 (l.sum : Nat), .bool true] := by
  unfold sumV sumL sumIs
  rw [if_pos h, decide_eq_true h]
theorem sumV_no {l : List Nat} (h : ¬ l.sum ≤ most) : sumV l = .tuple #[.int .u64 0, .bool false] := by
  unfold sumV sumL sumIs
  rw [if_neg h, decide_eq_false h]
  rfl
def SmI (l : List Nat) (vs vi : Value) : Prop := ∃ k : Nat, k ≤ l.length ∧ vi = .int .i64 k ∧ vs = .int .u64 ((l.take k).sum : Nat) ∧ (l.take k).sum ≤ most
theorem most_eq : most = 2100000000000000 := rfl
set_option maxRecDepth 100000 in
theorem sum_c (l : List Nat) (v : Value) (w : World) (hs : SrcU w v l) (hl : l.length ≤ 9223372036854775807) :
    Calls Try.prog 6 #[v] w fun e w' => e = .returned (sumV l) ∧ w = w' := by
  have hm := most_eq
  rcases hs with ⟨sp, cap, rfl, rfl⟩ | ⟨h0, bb, off, cap, rfl, hc, hcell⟩
  · rw [sumV_yes (by simp)]
    clear hm hl
    go_enter Try.func6, Try.ntmps6
    go_wp2_with fail
    refine wp_loop_rounds 1 ?_
    rw [rounds_succ]
    go_wp2_with fail
    go_ret2
    exact ⟨rfl, rfl⟩
  obtain ⟨n, hn⟩ : ∃ n, n = l.length := ⟨_, rfl⟩
  rw [← hn] at hc h0 hl ⊢
  have HN := Lib.hid hn
  have HC := Lib.hid hcell
  clear hn hcell hm
  go_enter Try.func6, Try.ntmps6
  go_wp2_with fail
  go_loop [4, 9] (fun vs vi => SmI l vs vi) (fun _ vi => n - (intOf vi).toNat)
  case atStart => exact ⟨0, by omega, rfl, rfl, by simp⟩
  case round =>
    obtain ⟨k, hk, rfl, rfl, hsm⟩ := hrel
    rw [← HN.out] at hk
    obtain ⟨s, hse⟩ : ∃ s, s = (l.take k).sum := ⟨_, rfl⟩
    rw [← hse] at hsm ⊢
    rw [most_eq] at hsm
    by_cases hlt : k < n
    · obtain ⟨x, hx⟩ : ∃ x, x = l.getD k 0 := ⟨_, rfl⟩
      have ck : w.cell? ⟨bb, off + k, none⟩ = some (.int .u64 (x : Nat)) := by rw [hx]; exact HC.out k (by rw [← HN.out]; exact hlt)
      have HT : Hid ((l.take (k + 1)).sum = s + x) := by
        show _ = _
        rw [sum_take_succ (by rw [← HN.out]; exact hlt), hse, hx]
      have HO : Hid (most < s + x → ¬ l.sum ≤ most) := fun h => sum_over (k := k) (by rw [← HN.out]; exact hlt) (by rw [← hse, ← hx]; exact h)
      have HNL : Hid (k + 1 ≤ l.length) := by show _ ≤ _; rw [← HN.out]; omega
      clear hx hse HC
      by_cases hov : s + x ≤ 2100000000000000
      · have hno : ¬ (2100000000000000 - (s : Int) < (x : Int)) := by omega
        go_wp2_with fail
        go_round
        case rel => exact ⟨k + 1, HNL.out, by go_num, by rw [HT.out]; go_num, by rw [HT.out, most_eq]; exact hov⟩
        case measure => simp [intOf]; omega
      · have hyes : (2100000000000000 - (s : Int) < (x : Int)) := by omega
        have HF : Hid (sumV l = .tuple #[.int .u64 0, .bool false]) := sumV_no (HO.out (by rw [most_eq]; omega))
        clear HO HT
        go_wp2_with fail
        go_ret2
        exact ⟨by rw [HF.out]; rfl, rfl⟩
    · have hkn : k = n := by omega
      have HF : Hid (sumV l = .tuple #[.int .u64 (s : Nat), .bool true]) := by
        have e : l.take k = l := List.take_of_length_le (by rw [← HN.out]; omega)
        show _ = _
        rw [hse, e]
        exact sumV_yes (by rw [← e, ← hse, most_eq]; exact hsm)
      clear hkn hse HC
      go_wp2_with fail
      go_ret2
      exact ⟨by rw [HF.out]; rfl, rfl⟩
end Go.Proofs.Ytdgejdecahdjkaa.Sha
