/-
  A Reader's Four, Eight and Bytes answer what the chapter says, and leave what it says; Hash behind an error answers no digest. Conditions: the Reader stands as it should; the three errors are there.
-/
import Derived.Test.YtdgejdecahdjkaaDoorCmpRead
namespace Go.Proofs.YtdgejdecahdjkaaDoor.Sha
open Go Go.RowKit

set_option maxRecDepth 100000 in
theorem eight_is (E : Nat → Addr) (m : Nat) (bs x b : List UInt8) (c d r : Nat) (w : World) (hE : ErR w E r) (hr : RdI E m w r bs c) (ht : takeL 8 bs c = (x, b, d)) :
    Calls Tryd.prog 19 #[.pointer (some ⟨r, 0, none⟩)] w (NumPost E m (leN x) b d r w) := by
  have HE := Lib.hid hE
  have HR := Lib.hid hr
  have HT := Lib.hid ht
  have HX : Hid (x.length ≤ 8) := by have := takeL_le 8 bs c; rw [ht] at this; exact this
  clear hE hr ht
  go_enter Tryd.func19, Tryd.ntmps19
  go_wp2_with fail
  refine (take_is E m 8 8 rfl bs x b c d r _ HE.out HR.out (by omega) HT.out).mono ?_
  rintro e w1 ⟨v1, rfl, s1, -, i1, g1⟩
  have S1 := Lib.hid s1
  have I1 := Lib.hid i1
  have G1 := Lib.hid g1
  clear s1 i1 g1
  go_wp2_with fail
  refine (number_any x v1 _ S1.out HX.out).mono ?_
  rintro e w' ⟨rfl, rfl⟩
  go_wp2_with fail
  go_ret
  exact ⟨rfl, I1.out, G1.out⟩
def FourPost (E : Nat → Addr) (m : Nat) (n : Nat) (b : List UInt8) (d r : Nat) (w : World) (e : Ending) (w' : World) : Prop :=
  e = .returned (.int .u32 n) ∧ RdI E m w' r b d ∧ w.grownBy w' (some r)
set_option maxRecDepth 100000 in
theorem four_is (E : Nat → Addr) (m : Nat) (bs x b : List UInt8) (c d r : Nat) (w : World) (hE : ErR w E r) (hr : RdI E m w r bs c) (ht : takeL 4 bs c = (x, b, d)) :
    Calls Tryd.prog 20 #[.pointer (some ⟨r, 0, none⟩)] w (FourPost E m (leN x) b d r w) := by
  have HE := Lib.hid hE
  have HR := Lib.hid hr
  have HT := Lib.hid ht
  have hx : x.length ≤ 4 := by have := takeL_le 4 bs c; rw [ht] at this; exact this
  have hlt : leN x < 4294967296 := by
    have h1 := leN_lt x
    have h2 : 256 ^ x.length ≤ 256 ^ 4 := Nat.pow_le_pow_right (by omega) hx
    have h3 : (256 : Nat) ^ 4 = 4294967296 := rfl
    omega
  have HX := Lib.hid hx
  obtain ⟨n, hn⟩ : ∃ n, n = leN x := ⟨_, rfl⟩
  rw [← hn] at hlt ⊢
  have HN := Lib.hid hn
  have hmod : (n : Int) % 4294967296 = (n : Int) := by omega
  clear hE hr ht hx hn
  go_enter Tryd.func20, Tryd.ntmps20
  go_wp2_with fail
  refine (take_is E m 4 4 rfl bs x b c d r _ HE.out HR.out (by omega) HT.out).mono ?_
  rintro e w1 ⟨v1, rfl, s1, -, i1, g1⟩
  have S1 := Lib.hid s1
  have I1 := Lib.hid i1
  have G1 := Lib.hid g1
  clear s1 i1 g1
  go_wp2_with fail
  have hnum := number_any x v1 w1 S1.out (by have := HX.out; omega)
  rw [← HN.out] at hnum
  refine hnum.mono ?_
  rintro e w' ⟨rfl, rfl⟩
  clear hnum
  go_wp2_with fail
  go_ret
  exact ⟨ret_int (by omega), I1.out, G1.out⟩
def BytesPost (E : Nat → Addr) (m : Nat) (x b : List UInt8) (d r : Nat) (w : World) (e : Ending) (w' : World) : Prop :=
  ∃ v, e = .returned v ∧ w'.ownsRow w.heap.size 5 1 v x.length (x.map bV) ∧ RdI E m w' r b d ∧ w.grownBy w' (some r)
theorem grownBy_below' {w w1 w2 : World} {row : Option Nat} (h : w.grownBy w1 row) (hb : Below w1.heap.size w1 w2) : w.grownBy w2 row := grownBy_trans h (grownBy_of_below hb row)
set_option maxRecDepth 100000 in
theorem bytes_is (E : Nat → Addr) (m : Nat) (n : Int) (k : Nat) (hk : k = n.toNat) (bs x b : List UInt8) (c d r : Nat) (w : World) (hE : ErR w E r) (hr : RdI E m w r bs c) (ht : takeL k bs c = (x, b, d)) (hn : n ≤ 9223372036854775807) (hl : bs.length ≤ 70368744177664) :
    Calls Tryd.prog 22 #[.pointer (some ⟨r, 0, none⟩), .int .i64 n] w (BytesPost E m x b d r w) := by
  have HE := Lib.hid hE
  have HR := Lib.hid hr
  have HT := Lib.hid ht
  have hx : x.length ≤ 70368744177664 := by
    have h1 : x.length ≤ bs.length := by
      unfold takeL at ht
      split at ht
      · cases ht; simp
      · split at ht
        · cases ht; simp
        · cases ht; simp [List.length_take]; omega
    omega
  have HX := Lib.hid hx
  by_cases h0 : n < 0
  · have hk0 : k = 0 := by omega
    subst hk0
    clear hk hE hr ht hx
    go_enter Tryd.func22, Tryd.ntmps22
    go_wp2_with fail
    refine (take_is E m 0 0 rfl bs x b c d r _ HE.out HR.out (by omega) HT.out).mono ?_
    rintro e w1 ⟨v1, rfl, s1, -, i1, g1⟩
    have S1 := Lib.hid s1
    have I1 := Lib.hid i1
    have G1 := Lib.hid g1
    clear s1 i1 g1
    go_wp2_with fail
    refine (clone_any x v1 _ S1.out HX.out).mono ?_
    rintro e w2 ⟨v2, rfl, h2⟩
    have H2 := Lib.hid h2
    clear h2
    go_wp2_with fail
    go_ret
    exact ⟨_, rfl, own_base H2.out.1 G1.out.size, I1.out.below H2.out.2, grownBy_below' G1.out H2.out.2⟩
  · obtain ⟨q, rfl⟩ : ∃ q : Nat, n = (q : Int) := ⟨n.toNat, by omega⟩
    have hkq : k = q := by omega
    subst hkq
    have h0' : ¬ (k : Int) < 0 := by omega
    clear hk hE hr ht hx h0
    go_enter Tryd.func22, Tryd.ntmps22
    go_wp2_with fail
    refine (take_is E m k k rfl bs x b c d r _ HE.out HR.out (by omega) HT.out).mono ?_
    rintro e w1 ⟨v1, rfl, s1, -, i1, g1⟩
    have S1 := Lib.hid s1
    have I1 := Lib.hid i1
    have G1 := Lib.hid g1
    clear s1 i1 g1
    go_wp2_with fail
    refine (clone_any x v1 _ S1.out HX.out).mono ?_
    rintro e w2 ⟨v2, rfl, h2⟩
    have H2 := Lib.hid h2
    clear h2
    go_wp2_with fail
    go_ret
    exact ⟨_, rfl, own_base H2.out.1 G1.out.size, I1.out.below H2.out.2, grownBy_below' G1.out H2.out.2⟩
end Go.Proofs.YtdgejdecahdjkaaDoor.Sha
