/-
  compact.number answers what bytes are as a number, the lowest first; widthBehind how many bytes stand behind a first one; bytes.Clone copies; nothing that was there turns. Conditions: at most eight bytes (number); the bytes lie where the slice says.
-/
import Derived.Laws.Bits64
import Derived.Laws.Bits64b
import Derived.Laws.BitsAllLaws
import Derived.Test.YtlfpjfhpleociaaDoorCmpLib
namespace Go.Proofs.YtlfpjfhpleociaaDoor.Sha
open Go Go.RowKit
theorem leN_or {a k : Nat} (x : UInt8) (ha : a < 256 ^ k) (hk : k < 8) : bits .or .u64 (a : Int) (bv x * 2 ^ (8 * k) % 18446744073709551616) = ((a + 256 ^ k * x.toNat : Nat) : Int) := by
  have hx := x.toNat_lt
  have e1 : (2 : Nat) ^ (8 * k) = 256 ^ k := by rw [Nat.pow_mul]
  have hp : 256 ^ k * 256 ≤ 256 ^ 8 := by
    rw [← pow_next]
    exact Nat.pow_le_pow_right (by omega) (by omega)
  have hp8 : (256 : Nat) ^ 8 = 18446744073709551616 := rfl
  have hm : x.toNat * 256 ^ k < 18446744073709551616 := by
    have : x.toNat * 256 ^ k ≤ 255 * 256 ^ k := Nat.mul_le_mul_right _ (by omega)
    have h0 : 0 < 256 ^ k := Nat.pow_pos (by omega)
    omega
  have ha2 : a < 18446744073709551616 := by have h0 : 0 < 256 ^ k := Nat.pow_pos (by omega); omega
  have e2 : bv x * 2 ^ (8 * k) % 18446744073709551616 = ((x.toNat * 256 ^ k : Nat) : Int) := by
    unfold bv
    rw [← e1]
    rw [show (x.toNat : Int) * 2 ^ (8 * k) = ((x.toNat * 2 ^ (8 * k) : Nat) : Int) by simp]
    rw [e1]
    omega
  rw [e2, u64_or_nat _ _ ha2 hm]
  congr 1
  rw [Nat.or_comm, Nat.mul_comm, ← e1, Nat.add_comm, ← Nat.two_pow_add_eq_or_of_lt (by rw [e1]; exact ha)]
theorem leN_or' {a k : Nat} (x : UInt8) (ha : a < 256 ^ k) (hk : k < 8) : bits .or .u64 (a : Int) (IntKind.u64.wrap (IntKind.u64.wrap (bv x) * 2 ^ (8 * k))) = ((a + 256 ^ k * x.toNat : Nat) : Int) := by
  have hx := bv_bd x
  rw [show IntKind.u64.wrap (bv x) = bv x by rw [IntKind.wrap_u64]; omega, IntKind.wrap_u64, leN_or x ha hk]
def NuInv (xs : List UInt8) (m : Nat) (vn vi : Value) : Prop := ∃ k : Nat, k ≤ m ∧ vi = .int .i64 k ∧ vn = .int .u64 (leN (xs.take k) : Nat)
set_option maxRecDepth 100000 in
theorem number_any (xs : List UInt8) (v : Value) (w : World) (hs : SrcB w v xs) (hl : xs.length ≤ 8) :
    Calls Tryd.prog 33 #[v] w fun e w' => e = .returned (.int .u64 (leN xs : Nat)) ∧ w = w' := by
  rcases hs with ⟨sp, cap, rfl, rfl⟩ | ⟨h0, bb, off, cap, rfl, hc, hcell⟩
  · clear hl
    go_enter Tryd.func33, Tryd.ntmps33
    go_wp2_with fail
    refine wp_loop_rounds 1 ?_
    rw [rounds_succ]
    go_wp2_with fail
    go_ret
    exact ⟨rfl, rfl⟩
  obtain ⟨m, hm⟩ : ∃ m, m = xs.length := ⟨_, rfl⟩
  rw [← hm] at hc h0 hl ⊢
  have HM := Lib.hid hm
  have HC := Lib.hid hcell
  clear hm hcell
  go_enter Tryd.func33, Tryd.ntmps33
  go_wp2_with fail
  go_loop [2, 7] (fun vn vi => NuInv xs m vn vi) (fun _ vi => m - (intOf vi).toNat)
  case atStart => exact ⟨0, by omega, rfl, rfl⟩
  case round =>
    obtain ⟨k, hk, rfl, rfl⟩ := hrel
    by_cases hlt : k < m
    · obtain ⟨x, hx⟩ : ∃ x, x = xs.getD k 0 := ⟨_, rfl⟩
      obtain ⟨a, ha⟩ : ∃ a, a = leN (xs.take k) := ⟨_, rfl⟩
      have ck : w.cell? ⟨bb, off + k, none⟩ = some (.int .u8 (bv x)) := by rw [hx]; exact HC.out k (by rw [← HM.out]; exact hlt)
      have hlk : (xs.take k).length = k := by rw [List.length_take, ← HM.out]; omega
      have ha2 : a < 256 ^ k := by have := leN_lt (xs.take k); rw [hlk] at this; rw [ha]; exact this
      have HT : Hid (leN (xs.take (k + 1)) = a + 256 ^ k * x.toNat) := by
        show _ = _
        have hkx : k < xs.length := by rw [← HM.out]; exact hlt
        have e : xs[k] = x := by rw [hx]; simp [List.getD, List.getElem?_eq_getElem hkx]
        rw [List.take_succ_eq_append_getElem hkx, leN_snoc, hlk, e, ha]
      have hor := leN_or' x ha2 (show k < 8 by omega)
      have e1 : (8 * (k : Int)).toNat = 8 * k := by omega
      rw [← ha]
      obtain ⟨z, hz⟩ : ∃ z, z = a + 256 ^ k * x.toNat := ⟨_, rfl⟩
      rw [← hz] at hor HT
      clear hx ha hlk ha2 hz
      go_wp2_with fail
      go_round
      case rel => exact ⟨k + 1, by omega, by go_num, by rw [HT.out]⟩
      case measure => simp [intOf]; omega
    · have hkm : k = m := by omega
      have HT : Hid (leN (xs.take k) = leN xs) := by show _ = _; rw [List.take_of_length_le (by rw [← HM.out]; omega)]
      clear hkm
      go_wp2_with fail
      go_ret
      exact ⟨by rw [← HT.out]; rfl, rfl⟩
/-- How many bytes stand behind a first one. -/
def widN (n : Nat) : Nat := if n = 253 then 2 else if n = 254 then 4 else if n = 255 then 8 else 0
/-- A copy in memory that is new, or none. -/
def CopyB (w w' : World) (v : Value) (bs : List UInt8) : Prop := w'.ownsRow w.heap.size 5 1 v bs.length (bs.map bV) ∧ Below w.heap.size w w'
set_option maxRecDepth 100000 in
theorem clone_any (bs : List UInt8) (v : Value) (w : World) (hs : SrcB w v bs) (hl : bs.length ≤ 70368744177664) :
    Calls Tryd.prog 27 #[v] w fun e w' => ∃ v', e = .returned v' ∧ CopyB w w' v' bs := by
  obtain ⟨i0, hi, hz0, hz1, hz2⟩ := info_parts info_u8
  have hown0 : (w.alloc (.cells #[] 5)).ownsRow w.heap.size 5 1 (.slice (some ⟨w.heap.size, 0, none⟩) 0 0) 0 [] := World.ownsRow_lit w #[] 0 (Nat.le_refl _) (by unfold maxLen; omega) rfl
  have HO0 := Lib.hid hown0
  rcases hs with ⟨sp, cap, rfl, rfl⟩ | ⟨h0, bb, off, cap, rfl, hc, hcell⟩
  · cases sp with
    | none =>
      clear hown0 HO0
      have hq : ∀ W, (binOp .eql 28 (.slice none 0 cap) (.slice none 0 0)).run Tryd.prog W = .ok (.bool true) W := fun W => by kernel_rfl
      go_enter Tryd.func27, Tryd.ntmps27
      go_wp2_with fail
      go_ret
      exact ⟨_, rfl, World.ownsRow_nil w _ _ _, Below.refl _ _⟩
    | some ad =>
      have hap : ∀ ty, (Builtin.append_ #[28, 28] ty #[.slice (some ⟨w.heap.size, 0, none⟩) 0 0, .slice (some ad) 0 cap]).run Tryd.prog (w.alloc (.cells #[] 5)) = .ok (.slice (some ⟨w.heap.size, 0, none⟩) 0 0) (w.alloc (.cells #[] 5)) := fun ty =>
        run_append_src0 w.heap.size 28 ty 5 i0 Tryd.underlying28 hi w.heap.size 0 0 [] (by rw [hz1]; exact HO0.out) (some ad) cap
      clear hown0
      have hq : ∀ W, (binOp .eql 28 (.slice (some ad) 0 cap) (.slice none 0 0)).run Tryd.prog W = .ok (.bool false) W := fun W => by kernel_rfl
      go_enter Tryd.func27, Tryd.ntmps27
      go_wp2_with fail
      go_ret
      exact ⟨_, rfl, HO0.out, (Below.refl _ _).alloc (Nat.le_refl _) _⟩
  · have hbb := SrcB.block h0 hcell
    have HC := Lib.hid hcell
    clear hown0 hcell
    obtain ⟨n, hn⟩ : ∃ n, n = bs.length := ⟨_, rfl⟩
    rw [← hn] at h0 hc hl ⊢
    have HN := Lib.hid hn
    clear hn
    have hsrc : ∀ j u, (bs.map bV)[j]? = some u → (w.alloc (.cells #[] 5)).cell? ((⟨bb, off, none⟩ : Addr).add j) = some u := by
      intro j u hu
      rw [List.getElem?_map] at hu
      obtain ⟨b, hb, rfl⟩ := Option.map_eq_some_iff.1 hu
      have hj := (List.getElem?_eq_some_iff.1 hb).1
      rw [Addr.add_mid, ((Below.refl w.heap.size w).alloc (Nat.le_refl _) _).cell (p := ⟨bb, off + j, none⟩) hbb, HC.out j hj]
      simp [bV, List.getD, hb]
    have HSRC := Lib.hid hsrc
    clear hsrc
    have hq : ∀ W, (binOp .eql 28 (.slice (some ⟨bb, off, none⟩) n cap) (.slice none 0 0)).run Tryd.prog W = .ok (.bool false) W := fun W => by kernel_rfl
    go_enter Tryd.func27, Tryd.ntmps27
    go_wp2_with (at_builtin; refine wpList_append_own _ rfl _ _ 28 rfl w.heap.size 5 i0 (.int .u8 0) 1 1 Tryd.underlying28 hi hz0 hz1 hz2 rfl (by decide) (.slice (some ⟨w.heap.size, 0, none⟩) 0 0) 0 [] rfl HO0.out ⟨bb, off, none⟩ n cap (bs.map bV) rfl (by rw [List.length_map, HN.out]; omega) HSRC.out (bV_one' _) (by unfold maxLen; omega) (by omega) (by simp) ?_; intro v2 w3 ho3 hg3 _; have HO3 := Lib.hid ho3; have HG3 := Lib.hid hg3; clear ho3 hg3; go_frame)
    go_ret
    refine ⟨_, rfl, ?_, own_grown ((Below.refl _ _).alloc (Nat.le_refl _) _) (Nat.le_refl _) (by simp) HO0.out HG3.out⟩
    have h := HO3.out
    rw [Nat.zero_add, List.nil_append, HN.out] at h
    exact h
end Go.Proofs.YtlfpjfhpleociaaDoor.Sha
