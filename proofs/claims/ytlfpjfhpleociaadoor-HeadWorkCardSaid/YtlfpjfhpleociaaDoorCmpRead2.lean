/-
  A Reader's Four, Eight and Bytes answer what the chapter says, and leave what it says; Hash behind an error answers no digest. Conditions: the Reader stands as it should; the three errors are there.
-/
import Derived.Test.YtlfpjfhpleociaaDoorCmpRead
namespace Go.Proofs.YtlfpjfhpleociaaDoor.Sha
open Go Go.RowKit
def FourPost (E : Nat → Addr) (m : Nat) (n : Nat) (b : List UInt8) (d r : Nat) (w : World) (e : Ending) (w' : World) : Prop :=
  e = .returned (.int .u32 n) ∧ RdI E m w' r b d ∧ w.grownBy w' (some r)
set_option maxRecDepth 100000 in
theorem four_is (E : Nat → Addr) (m : Nat) (bs x b : List UInt8) (c d r : Nat) (w : World) (hE : ErR w E r) (hr : RdI E m w r bs c) (ht : takeL 4 bs c = (x, b, d)) :
    Calls Tryd.prog 28 #[.pointer (some ⟨r, 0, none⟩)] w (FourPost E m (leN x) b d r w) := by
  have HE := Lib.hid hE
  have HR := Lib.hid hr
  have HT := Lib.hid ht
  have hx : x.length ≤ 4 := by have := takeL_le 4 bs c; rw [ht] at this; exact this
  have hlt : leN x < 4294967296 := by
    have h1 := leN_lt x
    have h2 : 256 ^ x.length ≤ 256 ^ 4 := Nat.pow_le_pow_right (by omega) hx
    have h3 : (256 : Nat) ^ 4 = 4294967296 := rfl
    omega
  have HX := Lib.hid hx
  obtain ⟨n, hn⟩ : ∃ n, n = leN x := ⟨_, rfl⟩
  rw [← hn] at hlt ⊢
  have HN := Lib.hid hn
  have hmod : (n : Int) % 4294967296 = (n : Int) := by omega
  clear hE hr ht hx hn
  go_enter Tryd.func28, Tryd.ntmps28
  go_wp2_with fail
  refine (take_is E m 4 4 rfl bs x b c d r _ HE.out HR.out (by omega) HT.out).mono ?_
  rintro e w1 ⟨v1, rfl, s1, -, i1, g1⟩
  have S1 := Lib.hid s1
  have I1 := Lib.hid i1
  have G1 := Lib.hid g1
  clear s1 i1 g1
  go_wp2_with fail
  have hnum := number_any x v1 w1 S1.out (by have := HX.out; omega)
  rw [← HN.out] at hnum
  refine hnum.mono ?_
  rintro e w' ⟨rfl, rfl⟩
  clear hnum
  go_wp2_with fail
  go_ret
  exact ⟨ret_int (by omega), I1.out, G1.out⟩
end Go.Proofs.YtlfpjfhpleociaaDoor.Sha
