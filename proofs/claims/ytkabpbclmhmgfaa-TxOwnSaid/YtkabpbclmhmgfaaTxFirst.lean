/-
  The chapter's examples hold, given what package tx is shown to answer. No conditions.
-/
import Derived.Test.YtkabpbclmhmgfaaTxSm
namespace Go.Proofs.Ytkabpbclmhmgfaa.Sha
open Go Go.RowKit

def noTx : TTx := ⟨0, [], [], 0⟩
theorem noTx_at (w : World) : TxAt w (.agg #[.int .u32 0, .slice none 0 0, .slice none 0 0, .int .u32 0]) noTx :=
  ⟨⟨by simp [noTx], by simp [noTx]⟩, .slice none 0 0, .slice none 0 0, rfl, ⟨none, 0, rfl, by simp [noTx], fun h => absurd h (by simp [noTx])⟩, ⟨none, 0, rfl, by simp [noTx], fun h => absurd h (by simp [noTx])⟩⟩
theorem noTx_small : TxSmall noTx := ⟨⟨⟨by simp [noTx], by simp [noTx]⟩, fun _ h => absurd h (by simp [noTx]), fun _ h => absurd h (by simp [noTx]), fun _ h => absurd h (by simp [noTx]), by simp [noTx], by simp [noTx]⟩, by simp [noTx], by simp [noTx], fun _ h => absurd h (by simp [noTx])⟩
theorem noTx_len : (txB noTx).length = 10 := by decide
set_option maxHeartbeats 400000 in
set_option maxRecDepth 100000 in
theorem first4_of (HBy : BytesC) (HSz : SizeC) (w : World) : Calls Try.prog 4 #[] w fun e w' => e = .returned (.bool true) ∧ Below w.heap.size w w' := by
  go_enter Try.func4, Try.ntmps4
  go_wp2_with fail
  refine (HBy noTx _ _ (noTx_at _) noTx_small).mono ?_
  rintro e w1 ⟨v1, rfl, ho1, hb1⟩
  have hsb := src_own ho1
  obtain ⟨sb, cb, hvb⟩ := hsb.shape
  rw [noTx_len] at hvb
  subst hvb
  have B := Lib.hid hb1
  clear ho1 hb1 hsb
  go_wp2_with fail
  refine (HSz noTx _ _ (noTx_at _) noTx_small).mono ?_
  rintro e w2 ⟨he, hb2⟩
  rw [noTx_len] at he
  subst he
  have B := Lib.hid (B.out.trans (hb2.mono B.out.size))
  clear hb2
  go_wp2_with fail
  go_ret
  exact ⟨rfl, B.out⟩
end Go.Proofs.Ytkabpbclmhmgfaa.Sha
