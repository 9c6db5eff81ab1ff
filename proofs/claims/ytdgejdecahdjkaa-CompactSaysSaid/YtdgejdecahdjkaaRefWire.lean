/-
  The statements' own numbers in bytes and sums (chapter 2) answer what the chapter says; nothing that was there turns but the row that they are given. Conditions: own rows that are short; amounts that lie where the slice says.
-/
import Derived.Test.YtdgejdecahdjkaaCmpPut
import Derived.Test.YtdgejdecahdjkaaCmpSum
namespace Go.Proofs.Ytdgejdecahdjkaa.Sha
open Go Go.RowKit

set_option maxRecDepth 100000 in
theorem rlen_c (n : Nat) (k : Int) (w : World) (hk : ((lenN n : Nat) : Int) = k) :
    Calls Try.prog 13 #[.int .u64 n] w fun e w' => e = .returned (.int .i64 k) ∧ w = w' := by
  subst hk
  by_cases h1 : n < 253
  · have e : lenN n = 1 := by unfold lenN; rw [if_pos h1]
    rw [e]
    clear e
    go_enter Try.func13, Try.ntmps13
    go_wp2
    go_ret
    exact ⟨rfl, rfl⟩
  by_cases h2 : n ≤ 65535
  · have e : lenN n = 3 := by unfold lenN; rw [if_neg h1, if_pos h2]
    rw [e]
    have i1 : ¬ (n : Int) < 253 := by omega
    have i2 : (n : Int) < 65536 := by omega
    clear e h1 h2
    go_enter Try.func13, Try.ntmps13
    go_wp2
    go_ret
    exact ⟨rfl, rfl⟩
  by_cases h3 : n ≤ 4294967295
  · have e : lenN n = 5 := by unfold lenN; rw [if_neg h1, if_neg h2, if_pos h3]
    rw [e]
    have i1 : ¬ (n : Int) < 253 := by omega
    have i2 : ¬ (n : Int) < 65536 := by omega
    have i3 : (n : Int) < 4294967296 := by omega
    clear e h1 h2 h3
    go_enter Try.func13, Try.ntmps13
    go_wp2
    go_ret
    exact ⟨rfl, rfl⟩
  · have e : lenN n = 9 := by unfold lenN; rw [if_neg h1, if_neg h2, if_neg h3]
    rw [e]
    have i1 : ¬ (n : Int) < 253 := by omega
    have i2 : ¬ (n : Int) < 65536 := by omega
    have i3 : ¬ (n : Int) < 4294967296 := by omega
    clear e h1 h2 h3
    go_enter Try.func13, Try.ntmps13
    go_wp2
    go_ret
    exact ⟨rfl, rfl⟩

set_option maxRecDepth 100000 in
theorem sum_r (l : List Nat) (v : Value) (w : World) (hs : SrcU w v l) (hl : l.length ≤ 9223372036854775807) (hx64 : ∀ j, l.getD j 0 ≤ 18446744073709551615) :
    Calls Try.prog 7 #[v] w fun e w' => e = .returned (sumV l) ∧ w = w' := by
  have hm := most_eq
  rcases hs with ⟨sp, cap, rfl, rfl⟩ | ⟨h0, bb, off, cap, rfl, hc, hcell⟩
  · rw [sumV_yes (by simp)]
    clear hm hl hx64
    go_enter Try.func7, Try.ntmps7
    go_wp2_with fail
    refine wp_loop_rounds 1 ?_
    rw [rounds_succ]
    go_wp2_with fail
    go_ret2
    exact ⟨rfl, rfl⟩
  obtain ⟨n, hn⟩ : ∃ n, n = l.length := ⟨_, rfl⟩
  rw [← hn] at hc h0 hl ⊢
  have HN := Lib.hid hn
  have HC := Lib.hid hcell
  have HX64 := Lib.hid hx64
  clear hn hcell hm hx64
  go_enter Try.func7, Try.ntmps7
  go_wp2_with fail
  go_loop [4, 5] (fun vs vi => SmI l vs vi) (fun _ vi => n - (intOf vi).toNat)
  case atStart => exact ⟨0, by omega, rfl, rfl, by simp⟩
  case round =>
    obtain ⟨k, hk, rfl, rfl, hsm⟩ := hrel
    rw [← HN.out] at hk
    obtain ⟨s, hse⟩ : ∃ s, s = (l.take k).sum := ⟨_, rfl⟩
    rw [← hse] at hsm ⊢
    rw [most_eq] at hsm
    by_cases hlt : k < n
    · obtain ⟨x, hx⟩ : ∃ x, x = l.getD k 0 := ⟨_, rfl⟩
      have hx2 := HX64.out k
      rw [← hx] at hx2
      have ck : w.cell? ⟨bb, off + k, none⟩ = some (.int .u64 (x : Nat)) := by rw [hx]; exact HC.out k (by rw [← HN.out]; exact hlt)
      have HT : Hid ((l.take (k + 1)).sum = s + x) := by
        show _ = _
        rw [sum_take_succ (by rw [← HN.out]; exact hlt), hse, hx]
      have HO : Hid (most < s + x → ¬ l.sum ≤ most) := fun h => sum_over (k := k) (by rw [← HN.out]; exact hlt) (by rw [← hse, ← hx]; exact h)
      have HNL : Hid (k + 1 ≤ l.length) := by show _ ≤ _; rw [← HN.out]; omega
      clear hx hse HC HX64
      by_cases hxm : x ≤ 2100000000000000
      · have h1 : decide (2100000000000000 < (x : Int)) = false := by simp; omega
        have h1' : ¬ (2100000000000000 < (x : Int)) := by omega
        by_cases hov : s + x ≤ 2100000000000000
        · have h2 : decide (2100000000000000 < (s : Int) + (x : Int)) = false := by simp; omega
          have h2' : ¬ (2100000000000000 < (s : Int) + (x : Int)) := by omega
          go_wp2_with fail
          go_round
          case rel => exact ⟨k + 1, HNL.out, by go_num, by rw [HT.out]; go_num, by rw [HT.out, most_eq]; exact hov⟩
          case measure => simp [intOf]; omega
        · have h2 : decide (2100000000000000 < (s : Int) + (x : Int)) = true := by simp; omega
          have h2' : (2100000000000000 < (s : Int) + (x : Int)) := by omega
          have HF : Hid (sumV l = .tuple #[.int .u64 0, .bool false]) := sumV_no (HO.out (by rw [most_eq]; omega))
          clear HO HT
          go_wp2_with fail
          go_ret2
          exact ⟨by rw [HF.out]; rfl, rfl⟩
      · have h1 : decide (2100000000000000 < (x : Int)) = true := by simp; omega
        have h1' : (2100000000000000 < (x : Int)) := by omega
        have HF : Hid (sumV l = .tuple #[.int .u64 0, .bool false]) := sumV_no (HO.out (by rw [most_eq]; omega))
        clear HO HT
        go_wp2_with fail
        go_ret2
        exact ⟨by rw [HF.out]; rfl, rfl⟩
    · have hkn : k = n := by omega
      have HF : Hid (sumV l = .tuple #[.int .u64 (s : Nat), .bool true]) := by
        have e : l.take k = l := List.take_of_length_le (by rw [← HN.out]; omega)
        show _ = _
        rw [hse, e]
        exact sumV_yes (by rw [← e, ← hse, most_eq]; exact hsm)
      clear hkn hse HC HX64
      go_wp2_with fail
      go_ret2
      exact ⟨by rw [HF.out]; rfl, rfl⟩

/-- An own row of bytes, nothing below B turned. -/
def OwnB (base B : Nat) (w0 w : World) (v : Value) (bs : List UInt8) : Prop := w.ownsRow base 5 1 v bs.length (bs.map bV) ∧ Below B w0 w ∧ B ≤ w.heap.size
def LtInv (n many base : Nat) (bs : List UInt8) (w : World) (vb vi : Value) (wr : World) : Prop :=
  ∃ k : Nat, k ≤ many ∧ vi = .int .i64 k ∧ OwnB base base w wr vb (bs ++ leB n k)
theorem OwnB.push {base B : Nat} {w0 w w' : World} {v v' : Value} {bs : List UInt8} {o : Obj} (c : UInt8) (h : OwnB base B w0 w v bs) (hB : B ≤ base) (ho : w'.ownsRow base 5 1 v' (bs.length + 1) (bs.map bV ++ [.int .u8 (bv c)])) (hg : (w.alloc o).grownBy w' v.ownBlock) : OwnB base B w0 w' v' (bs ++ [c]) := by
  refine ⟨?_, own_grown (h.2.1.alloc h.2.2 o) hB (by have := h.2.2; simp; omega) (h.1.alloc o) hg, by have := hg.size; have := h.2.2; simp at *; omega⟩
  rw [List.map_append, List.length_append]
  exact ho
set_option maxHeartbeats 400000 in
set_option maxRecDepth 100000 in
theorem little_any (n many base : Nat) (km : Int) (hkm : km = (many : Int)) (bs : List UInt8) (v : Value) (w : World) (hw : many ≤ 8) (hb : base ≤ w.heap.size) (hl : bs.length ≤ 70368744177664) (ho : w.ownsRow base 5 1 v bs.length (bs.map bV)) :
    Calls Try.prog 20 #[v, .int .u64 n, .int .i64 km] w fun e w' => ∃ v', e = .returned v' ∧ OwnB base base w w' v' (bs ++ leB n many) := by
  subst hkm
  obtain ⟨i0, hi, hz0, hz1, hz2⟩ := info_parts info_u8
  have HO : Hid (OwnB base base w w v (bs ++ leB n 0)) := ⟨by simpa [leB] using ho, Below.refl _ _, hb⟩
  clear ho
  go_enter Try.func20, Try.ntmps20
  go_wp2_with fail
  go_loopw [0, 7] (fun vb vi wr => LtInv n many base bs w vb vi wr) (fun _ i _ => many - (intOf i).toNat)
  case atStart => exact ⟨0, by omega, rfl, HO.out⟩
  case round =>
    obtain ⟨k, hk, rfl, hown⟩ := hrel
    have HO := Lib.hid hown
    clear hown
    by_cases hlt : k < many
    · have e1 : (8 * (k : Int)).toNat = 8 * k := by omega
      have e2 : (2 : Nat) ^ (8 * k) = 256 ^ k := by rw [Nat.pow_mul]
      obtain ⟨q, hq⟩ : ∃ q, q = n / 256 ^ k := ⟨_, rfl⟩
      have hby : (n : Int) / 2 ^ (8 * k) % 256 = bv (UInt8.ofNat q) := by
        rw [← bv_of, IntKind.wrap_u8', hq, ← e2]
        simp
      obtain ⟨c, hc⟩ : ∃ c, c = UInt8.ofNat q := ⟨_, rfl⟩
      rw [← hc] at hby
      have HT : Hid (bs ++ leB n (k + 1) = (bs ++ leB n k) ++ [c]) := by
        show _ = _
        rw [hc, hq, leB, List.append_assoc]
      obtain ⟨cs, hcs⟩ : ∃ cs, cs = bs ++ leB n k := ⟨_, rfl⟩
      have hcl : cs.length ≤ 70368744177680 := by rw [hcs, List.length_append, leB_length]; omega
      rw [← hcs] at HO HT
      clear hq hc hcs e2
      go_wp2_with (at_builtin; refine wpList_append_own _ rfl _ _ 22 rfl base 5 i0 (.int .u8 0) 1 1 Try.underlying22 hi hz0 hz1 hz2 rfl (by decide) _ cs.length _ rfl (HO.out.1.alloc _) ⟨wr.heap.size, 0, none⟩ 1 1 [.int .u8 (bv c)] rfl rfl (cell_one_new _ _ _) (one_u8 _) (by unfold maxLen; omega) (by omega) (by have := HO.out.2.2; simp; omega) ?_; intro v2 w3 ho3 hg3 _; have HN := Lib.hid (HO.out.push c (Nat.le_refl _) ho3 hg3); clear ho3 hg3; go_frame)
      go_roundw
      case rel => exact ⟨k + 1, by omega, by go_num, by rw [HT.out]; exact HN.out⟩
      case measure => simp [intOf]; omega
    · have hkn : k = many := by omega
      subst hkn
      clear hlt
      go_wp2_with fail
      go_ret
      exact ⟨_, rfl, HO.out⟩
end Go.Proofs.Ytdgejdecahdjkaa.Sha
