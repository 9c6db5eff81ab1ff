/-
  A Reader's Num, Four, Eight, Bytes and Hash answer what the chapter says, and leave what it says. Conditions: the Reader stands as it should; the three errors are there.
-/
import Derived.Test.YtlfpjfhpleociaaDoorCmpPut
import Derived.Test.YtlfpjfhpleociaaDoorCmpTake
namespace Go.Proofs.YtlfpjfhpleociaaDoor.Sha
open Go Go.RowKit
/-- The three errors, none of them at block r. -/
def ErR (w : World) (E : Nat → Addr) (r : Nat) : Prop := Er w E ∧ 2 ≠ r ∧ 0 ≠ r ∧ 4 ≠ r
theorem ErR.grown {w w' : World} {E : Nat → Addr} {r : Nat} (h : ErR w E r) (hg : w.grownBy w' (some r)) : ErR w' E r := by
  obtain ⟨⟨a, b, c⟩, p, q, s⟩ := h
  exact ⟨⟨hg.cell a (fun e => p (Option.some.inj e)), hg.cell b (fun e => q (Option.some.inj e)), hg.cell c (fun e => s (Option.some.inj e))⟩, p, q, s⟩
theorem ErR.below {w w' : World} {E : Nat → Addr} {r : Nat} (h : ErR w E r) (hb : Below w.heap.size w w') : ErR w' E r := ⟨h.1.below hb, h.2⟩
theorem takeL_le (k : Nat) (bs : List UInt8) (c : Nat) : (takeL k bs c).1.length ≤ k := by
  unfold takeL
  split
  · simp
  · split
    · simp
    · simp [List.length_take]; omega
def TookPost (E : Nat → Addr) (m : Nat) (x b : List UInt8) (d r : Nat) (w : World) (e : Ending) (w' : World) : Prop :=
  ∃ v, e = .returned v ∧ SrcB w' v x ∧ AtB v m ∧ RdI E m w' r b d ∧ w.grownBy w' (some r)
theorem take_is (E : Nat → Addr) (m : Nat) (k : Nat) (kk : Int) (hkk : kk = (k : Int)) (bs x b : List UInt8) (c d r : Nat) (w : World) (hE : ErR w E r) (h : RdI E m w r bs c) (hk : k ≤ 9223372036854775807) (ht : takeL k bs c = (x, b, d)) :
    Calls Tryd.prog 34 #[.pointer (some ⟨r, 0, none⟩), .int .i64 kk] w (TookPost E m x b d r w) := by
  refine (take_any E m k kk hkk bs c r w hE.1 h hk).mono fun e w' ⟨v, he, h1, h2, h3, h4⟩ => ?_
  rw [ht] at h1 h3
  exact ⟨v, he, h1, h2, h3, h4⟩
/-- What Num answers, leaves and meets. -/
def numL (most : Nat) (bs : List UInt8) (c : Nat) : Nat × List UInt8 × Nat :=
  let t := takeL 1 bs c
  let k := widN (leN t.1)
  let u := if k = 0 then t else takeL k t.2.1 t.2.2
  if u.2.2 ≠ 0 then (0, u.2.1, u.2.2) else if lenN (leN u.1) ≠ 1 + k then (0, u.2.1, 2) else if most < leN u.1 then (0, u.2.1, 4) else (leN u.1, u.2.1, 0)
/-- What a Reader's two cells are. -/
theorem RdI.cells {E : Nat → Addr} {m : Nat} {w : World} {r c : Nat} {bs : List UInt8} (h : RdI E m w r bs c) : w.cell? ⟨r, 1, none⟩ = some (errV E c) ∧ w.frozen? ⟨r, 1, none⟩ = false := by
  obtain ⟨v, h1, _⟩ := h
  exact ⟨by rw [cell_of_row _ _ _ _ _ _ h1]; rfl, frozen_of_row _ _ _ _ _ h1⟩
end Go.Proofs.YtlfpjfhpleociaaDoor.Sha
