/-
  The small functions of digest's Writer: how long the padding is, the length in eight bytes, the words written down, how much was written. Conditions: sizes of messages that lie in memory.
-/
import Derived.WalkKit
import Derived.Deep.Light
import Derived.LoopTactic
import Derived.Laws.CopyOwn
import Derived.Lib.Hide
import Derived.WalkSmall
import Derived.Maps.RangeWalk
import Derived.Maps.AppendAt
import Derived.Test.YthgcpelabiigpaaDoorShaMix
import Derived.Test.YthgcpelabiigpaaDoorShaMath2
namespace Go.Proofs.YthgcpelabiigpaaDoor.Sha
open Go Go.RowKit

theorem pad_any (n : Nat) (w : World) (h : n ≤ 1152921504606846975) :
    Calls Tryd.prog 31 #[.int .i64 n] w fun e w' => e = .returned (.int .i64 (padLen n)) ∧ w = w' := by
  have hp : ((padLen n : Nat) : Int) = if (n : Int) % 64 < 56 then 56 - (n : Int) % 64 else 120 - (n : Int) % 64 := by
    unfold padLen
    split <;> split <;> omega
  by_cases hc : (n : Int) % 64 < 56
  · rw [if_pos hc] at hp
    have HP := Lib.hid hp
    clear hp
    go_enter Tryd.func31, Tryd.ntmps31
    go_wp2
    go_ret
    exact ⟨ret_int HP.out.symm, rfl⟩
  · rw [if_neg hc] at hp
    have HP := Lib.hid hp
    clear hp
    go_enter Tryd.func31, Tryd.ntmps31
    go_wp2
    go_ret
    exact ⟨ret_int HP.out.symm, rfl⟩

/-- k bytes of the length stand. -/
def LbInv (n B g : Nat) (w : World) (v i : Value) (wr : World) : Prop :=
  ∃ k : Nat, k ≤ 8 ∧ i = .int .i64 (56 - 8 * (k : Int)) ∧ v = .slice (some ⟨g, 0, none⟩) k 8 ∧ wr.ownsRow B 5 1 v k (((len8 n).take k).map bV) ∧ Below B w wr
theorem len8_snoc (n k : Nat) (h : k < 8) : (len8 n).take (k + 1) = (len8 n).take k ++ [lenByte n k] := by
  match k, h with
  | 0, _ => rfl
  | 1, _ => rfl
  | 2, _ => rfl
  | 3, _ => rfl
  | 4, _ => rfl
  | 5, _ => rfl
  | 6, _ => rfl
  | 7, _ => rfl
theorem lb_value (n k : Nat) : IntKind.u8.wrap (((n : Int) * 8) / 2 ^ (56 - 8 * k)) = bv (lenByte n k) := by
  unfold lenByte
  rw [← bv_of, Nat.mul_comm 8 n]
  congr 1
theorem bits_any (n : Nat) (w : World) (h : n ≤ 1152921504606846975) :
    Calls Tryd.prog 32 #[.int .i64 n] w fun e w' =>
      e = .returned (.slice (some ⟨w.heap.size, 0, none⟩) 8 8) ∧ w'.ownsRow w.heap.size 5 1 (.slice (some ⟨w.heap.size, 0, none⟩) 8 8) 8 ((len8 n).map bV) ∧ Below w.heap.size w w' := by
  obtain ⟨i0, hi, hz0, hz1, hz2⟩ := info_parts info_u8
  have hmk : ∀ w, (Instr.makeSlice 22 (.int .i64 0) (.int .i64 8)).run Tryd.prog w = .ok (.slice (some ⟨w.heap.size, 0, none⟩) 0 8) (w.alloc (.cells #[.int .u8 0, .int .u8 0, .int .u8 0, .int .u8 0, .int .u8 0, .int .u8 0, .int .u8 0, .int .u8 0] 5)) := fun _ => by kernel_rfl
  go_enter Tryd.func32, Tryd.ntmps32
  go_wp2_with fail
  clear hmk
  go_loopw [4, 5] (fun v i wr => LbInv n w.heap.size w.heap.size w v i wr) (fun _ i _ => (8 + intOf i).toNat)
  case atStart => exact ⟨0, by omega, rfl, rfl, World.ownsRow_made w _ 8 (Nat.le_refl _) (by decide) rfl, (Below.refl _ _).alloc (Nat.le_refl _) _⟩
  case round =>
    obtain ⟨k, hk, rfl, rfl, hown, hbel⟩ := hrel
    by_cases hlt : k < 8
    · have hv := lb_value n k
      have hv' : ((n : Int) * 8) / 2 ^ (56 - 8 * k) % 256 = bv (lenByte n k) := by rw [← hv, IntKind.wrap_u8']
      have hown1 := Lib.hid hown
      have hbel1 := Lib.hid hbel
      clear hown hbel
      go_wp2_with (at_builtin; refine wpList_append_fits _ rfl _ _ 22 rfl w.heap.size 5 i0 1 Tryd.underlying22 hi hz1 w.heap.size k 8 _ rfl (hown1.out.alloc _) ⟨wr.heap.size, 0, none⟩ 1 1 [.int .u8 (bv (lenByte n k))] rfl rfl (cell_one_new _ _ _) (one_u8 _) (by omega) ?_; intro w2 hown2 hgrow; have hown3 := Lib.hid hown2; have hgrow3 := Lib.hid hgrow; clear hown2 hgrow)
      go_roundw
      case rel =>
        refine ⟨k + 1, by omega, ?_, rfl, ?_, ?_⟩
        · exact congrArg (Value.int .i64) (by omega)
        · rw [len8_snoc n k hlt, List.map_append]
          exact hown3.out
        · have h1 : w.heap.size ≤ wr.heap.size := hbel1.out.size
          exact (hbel1.out.alloc h1 _).grown hgrow3.out (by simp; omega) (fun j hj => by cases hj; exact Nat.le_refl _)
      case measure => simp [intOf]; omega
    · have hk8 : k = 8 := by omega
      subst hk8
      have hown1 := Lib.hid hown
      have hbel1 := Lib.hid hbel
      clear hown hbel hk hlt
      go_wp2_with fail
      go_ret
      exact ⟨rfl, hown1.out, hbel1.out⟩
end Go.Proofs.YthgcpelabiigpaaDoor.Sha
