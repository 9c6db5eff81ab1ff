/-
  compact.number answers what bytes are as a number, the lowest first; widthBehind how many bytes stand behind a first one; bytes.Clone copies; nothing that was there turns. Conditions: at most eight bytes (number); the bytes lie where the slice says.
-/
import Derived.Laws.Bits64
import Derived.Laws.Bits64b
import Derived.Laws.BitsAllLaws
import Derived.Test.YtkabpbclmhmgfaaCmpLib
namespace Go.Proofs.Ytkabpbclmhmgfaa.Sha
open Go Go.RowKit

/-- A copy in memory that is new, or none. -/
def CopyB (w w' : World) (v : Value) (bs : List UInt8) : Prop := w'.ownsRow w.heap.size 5 1 v bs.length (bs.map bV) ∧ Below w.heap.size w w'
set_option maxRecDepth 100000 in
theorem clone_any (bs : List UInt8) (v : Value) (w : World) (hs : SrcB w v bs) (hl : bs.length ≤ 70368744177664) :
    Calls Try.prog 11 #[v] w fun e w' => ∃ v', e = .returned v' ∧ CopyB w w' v' bs := by
  obtain ⟨i0, hi, hz0, hz1, hz2⟩ := info_parts info_u8
  have hown0 : (w.alloc (.cells #[] 5)).ownsRow w.heap.size 5 1 (.slice (some ⟨w.heap.size, 0, none⟩) 0 0) 0 [] := World.ownsRow_lit w #[] 0 (Nat.le_refl _) (by unfold maxLen; omega) rfl
  have HO0 := Lib.hid hown0
  rcases hs with ⟨sp, cap, rfl, rfl⟩ | ⟨h0, bb, off, cap, rfl, hc, hcell⟩
  · cases sp with
    | none =>
      clear hown0 HO0
      have hq : ∀ W, (binOp .eql 34 (.slice none 0 cap) (.slice none 0 0)).run Try.prog W = .ok (.bool true) W := fun W => by kernel_rfl
      go_enter Try.func11, Try.ntmps11
      go_wp2_with fail
      go_ret
      exact ⟨_, rfl, World.ownsRow_nil w _ _ _, Below.refl _ _⟩
    | some ad =>
      have hap : ∀ ty, (Builtin.append_ #[34, 34] ty #[.slice (some ⟨w.heap.size, 0, none⟩) 0 0, .slice (some ad) 0 cap]).run Try.prog (w.alloc (.cells #[] 5)) = .ok (.slice (some ⟨w.heap.size, 0, none⟩) 0 0) (w.alloc (.cells #[] 5)) := fun ty =>
        run_append_src0 w.heap.size 34 ty 5 i0 Try.underlying34 hi w.heap.size 0 0 [] (by rw [hz1]; exact HO0.out) (some ad) cap
      clear hown0
      have hq : ∀ W, (binOp .eql 34 (.slice (some ad) 0 cap) (.slice none 0 0)).run Try.prog W = .ok (.bool false) W := fun W => by kernel_rfl
      go_enter Try.func11, Try.ntmps11
      go_wp2_with fail
      go_ret
      exact ⟨_, rfl, HO0.out, (Below.refl _ _).alloc (Nat.le_refl _) _⟩
  · have hbb := SrcB.block h0 hcell
    have HC := Lib.hid hcell
    clear hown0 hcell
    obtain ⟨n, hn⟩ : ∃ n, n = bs.length := ⟨_, rfl⟩
    rw [← hn] at h0 hc hl ⊢
    have HN := Lib.hid hn
    clear hn
    have hsrc : ∀ j u, (bs.map bV)[j]? = some u → (w.alloc (.cells #[] 5)).cell? ((⟨bb, off, none⟩ : Addr).add j) = some u := by
      intro j u hu
      rw [List.getElem?_map] at hu
      obtain ⟨b, hb, rfl⟩ := Option.map_eq_some_iff.1 hu
      have hj := (List.getElem?_eq_some_iff.1 hb).1
      rw [Addr.add_mid, ((Below.refl w.heap.size w).alloc (Nat.le_refl _) _).cell (p := ⟨bb, off + j, none⟩) hbb, HC.out j hj]
      simp [bV, List.getD, hb]
    have HSRC := Lib.hid hsrc
    clear hsrc
    have hq : ∀ W, (binOp .eql 34 (.slice (some ⟨bb, off, none⟩) n cap) (.slice none 0 0)).run Try.prog W = .ok (.bool false) W := fun W => by kernel_rfl
    go_enter Try.func11, Try.ntmps11
    go_wp2_with (at_builtin; refine wpList_append_own _ rfl _ _ 34 rfl w.heap.size 5 i0 (.int .u8 0) 1 1 Try.underlying34 hi hz0 hz1 hz2 rfl (by decide) (.slice (some ⟨w.heap.size, 0, none⟩) 0 0) 0 [] rfl HO0.out ⟨bb, off, none⟩ n cap (bs.map bV) rfl (by rw [List.length_map, HN.out]; omega) HSRC.out (bV_one' _) (by unfold maxLen; omega) (by omega) (by simp) ?_; intro v2 w3 ho3 hg3 _; have HO3 := Lib.hid ho3; have HG3 := Lib.hid hg3; clear ho3 hg3; go_frame)
    go_ret
    refine ⟨_, rfl, ?_, own_grown ((Below.refl _ _).alloc (Nat.le_refl _) _) (Nat.le_refl _) (by simp) HO0.out HG3.out⟩
    have h := HO3.out
    rw [Nat.zero_add, List.nil_append, HN.out] at h
    exact h
end Go.Proofs.Ytkabpbclmhmgfaa.Sha
