/-
  Texts of this proof joined into one file: CmpRead, CmpRead2, CmpHash, ErrIs, RdrState, NumMath, Par. What each holds, and under which conditions, its own first sentence tells.
-/
import Derived.Deep.RegionLaw
import Derived.Test.YtdamhoagiooicaaGreatDoorMg04
import Derived.Test.YtdamhoagiooicaaGreatDoorMg02
import Derived.Test.YtdamhoagiooicaaGreatDoorMg01
/-
  A Reader's Num, Four, Eight, Bytes and Hash answer what the chapter says, and leave what it says. Conditions: the Reader stands as it should; the three errors are there.
-/
namespace Go.Proofs.YtdamhoagiooicaaGreatDoor.Sha
open Go Go.RowKit
/-- The three errors, none of them at block r. -/
def ErR (w : World) (E : Nat → Addr) (r : Nat) : Prop := Er w E ∧ 9 ≠ r ∧ 0 ≠ r ∧ 1 ≠ r
theorem ErR.grown {w w' : World} {E : Nat → Addr} {r : Nat} (h : ErR w E r) (hg : w.grownBy w' (some r)) : ErR w' E r := by
  obtain ⟨⟨a, b, c⟩, p, q, s⟩ := h
  exact ⟨⟨hg.cell a (fun e => p (Option.some.inj e)), hg.cell b (fun e => q (Option.some.inj e)), hg.cell c (fun e => s (Option.some.inj e))⟩, p, q, s⟩
theorem ErR.below {w w' : World} {E : Nat → Addr} {r : Nat} (h : ErR w E r) (hb : Below w.heap.size w w') : ErR w' E r := ⟨h.1.below hb, h.2⟩
theorem takeL_le (k : Nat) (bs : List UInt8) (c : Nat) : (takeL k bs c).1.length ≤ k := by
  unfold takeL
  split
  · simp
  · split
    · simp
    · simp [List.length_take]; omega
def TookPost (E : Nat → Addr) (m : Nat) (x b : List UInt8) (d r : Nat) (w : World) (e : Ending) (w' : World) : Prop :=
  ∃ v, e = .returned v ∧ SrcB w' v x ∧ AtB v m ∧ RdI E m w' r b d ∧ w.grownBy w' (some r)
theorem take_is (E : Nat → Addr) (m : Nat) (k : Nat) (kk : Int) (hkk : kk = (k : Int)) (bs x b : List UInt8) (c d r : Nat) (w : World) (hE : ErR w E r) (h : RdI E m w r bs c) (hk : k ≤ 9223372036854775807) (ht : takeL k bs c = (x, b, d)) :
    Calls Tryz.prog 109 #[.pointer (some ⟨r, 0, none⟩), .int .i64 kk] w (TookPost E m x b d r w) := by
  refine (take_any E m k kk hkk bs c r w hE.1 h hk).mono fun e w' ⟨v, he, h1, h2, h3, h4⟩ => ?_
  rw [ht] at h1 h3
  exact ⟨v, he, h1, h2, h3, h4⟩
/-- What Num answers, leaves and meets. -/
def numL (most : Nat) (bs : List UInt8) (c : Nat) : Nat × List UInt8 × Nat :=
  let t := takeL 1 bs c
  let k := widN (leN t.1)
  let u := if k = 0 then t else takeL k t.2.1 t.2.2
  if u.2.2 ≠ 0 then (0, u.2.1, u.2.2) else if lenN (leN u.1) ≠ 1 + k then (0, u.2.1, 2) else if most < leN u.1 then (0, u.2.1, 4) else (leN u.1, u.2.1, 0)
def NumPost (E : Nat → Addr) (m : Nat) (n : Nat) (b : List UInt8) (d r : Nat) (w : World) (e : Ending) (w' : World) : Prop :=
  e = .returned (.int .u64 n) ∧ RdI E m w' r b d ∧ w.grownBy w' (some r)
/-- What a Reader's two cells are. -/
theorem RdI.cells {E : Nat → Addr} {m : Nat} {w : World} {r c : Nat} {bs : List UInt8} (h : RdI E m w r bs c) : w.cell? ⟨r, 1, none⟩ = some (errV E c) ∧ w.frozen? ⟨r, 1, none⟩ = false := by
  obtain ⟨v, h1, _⟩ := h
  exact ⟨by rw [cell_of_row _ _ _ _ _ _ h1]; rfl, frozen_of_row _ _ _ _ _ h1⟩
theorem RdI.met {E : Nat → Addr} {m : Nat} {w : World} {r c : Nat} {bs : List UInt8} (d : Nat) (h : RdI E m w r bs c) : RdI E m (w.setCell ⟨r, 1, none⟩ (errV E d)) r bs d ∧ w.grownBy (w.setCell ⟨r, 1, none⟩ (errV E d)) (some r) := by
  obtain ⟨v, h1, h2, h3⟩ := h
  exact rd_err h1 h2 h3.1 h3.2
theorem widN_le (n : Nat) : widN n ≤ 8 := by unfold widN; split <;> (try split) <;> (try split) <;> omega
set_option maxHeartbeats 400000 in
set_option maxRecDepth 100000 in
theorem num_aerr (E : Nat → Addr) (m : Nat) (most : Nat) (bs x b : List UInt8) (c d r : Nat) (w : World) (hE : ErR w E r) (hr : RdI E m w r bs c) (ht : takeL 1 bs c = (x, b, d)) (hk : widN (leN x) = 0) (q : Nat) (hd : d = q + 1) :
    Calls Tryz.prog 75 #[.pointer (some ⟨r, 0, none⟩), .int .u64 most] w (NumPost E m 0 b (q + 1) r w) := by
  have HE := Lib.hid hE
  have HR := Lib.hid hr
  have HT := Lib.hid ht
  have HX : Hid (x.length ≤ 1) := by have := takeL_le 1 bs c; rw [ht] at this; exact this
  have HK : Hid (((widN (leN x) : Nat) : Int) = 0) := by show _ = _; simp [hk]
  have HD := Lib.hid hd
  clear hE hr ht hk hd
  go_enter Tryz.func75, Tryz.ntmps75
  go_wp2_with fail
  refine (take_is E m 1 1 rfl bs x b c d r _ HE.out HR.out (by omega) HT.out).mono ?_
  rintro e w1 ⟨v1, rfl, s1, -, i1, g1⟩
  have S1 := Lib.hid s1
  have I1 := Lib.hid i1
  have G1 := Lib.hid g1
  clear s1 i1 g1
  go_wp2_with fail
  refine (number_any x v1 _ S1.out (by have := HX.out; omega)).mono ?_
  rintro e w' ⟨rfl, rfl⟩
  go_wp2_with fail
  refine (width_any (leN x) 0 _ HK.out).mono ?_
  rintro e w' ⟨rfl, rfl⟩
  have hc1 := I1.out.cells.1
  rw [HD.out] at hc1
  change _ = some (Value.iface 176 (.pointer (some (E q)))) at hc1
  go_wp2_with fail
  go_ret
  exact ⟨rfl, by rw [← HD.out]; exact I1.out, G1.out⟩
set_option maxHeartbeats 400000 in
set_option maxRecDepth 100000 in
theorem num_ashape (E : Nat → Addr) (m : Nat) (most : Nat) (bs x b : List UInt8) (c d r : Nat) (w : World) (hE : ErR w E r) (hr : RdI E m w r bs c) (ht : takeL 1 bs c = (x, b, d)) (hk : widN (leN x) = 0) (hd : d = 0) (hl : lenN (leN x) ≠ 1) :
    Calls Tryz.prog 75 #[.pointer (some ⟨r, 0, none⟩), .int .u64 most] w (NumPost E m 0 b 2 r w) := by
  have HE := Lib.hid hE
  have HR := Lib.hid hr
  have HT := Lib.hid ht
  have HX : Hid (x.length ≤ 1) := by have := takeL_le 1 bs c; rw [ht] at this; exact this
  have HK : Hid (((widN (leN x) : Nat) : Int) = 0) := by show _ = _; simp [hk]
  have HD := Lib.hid hd
  clear hE hr ht hk hd
  obtain ⟨L, hL⟩ : ∃ L : Int, L = ((lenN (leN x) : Nat) : Int) := ⟨_, rfl⟩
  have hne : (L == 1) = false := by rw [beq_eq_false_iff_ne, hL]; intro e; exact hl (by omega)
  have hne' : (L != 1) = true := by simp [bne, hne]
  have HL : Hid (((lenN (leN x) : Nat) : Int) = L) := hL.symm
  clear hL hl
  go_enter Tryz.func75, Tryz.ntmps75
  go_wp2_with fail
  refine (take_is E m 1 1 rfl bs x b c d r _ HE.out HR.out (by omega) HT.out).mono ?_
  rintro e w1 ⟨v1, rfl, s1, -, i1, g1⟩
  have S1 := Lib.hid s1
  have I1 := Lib.hid i1
  have G1 := Lib.hid g1
  clear s1 i1 g1
  go_wp2_with fail
  refine (number_any x v1 _ S1.out (by have := HX.out; omega)).mono ?_
  rintro e w' ⟨rfl, rfl⟩
  go_wp2_with fail
  refine (width_any (leN x) 0 _ HK.out).mono ?_
  rintro e w' ⟨rfl, rfl⟩
  have hc1 := I1.out.cells.1
  have hf1 := I1.out.cells.2
  rw [HD.out] at hc1
  change _ = some Value.nilIface at hc1
  have he := (HE.out.grown G1.out).1.2.1
  change _ = some (Value.iface 176 (.pointer (some (E 1)))) at he
  go_wp2_with (go_at_call 43; refine (len_is (leN x) (L) _ HL.out).mono ?_; rintro e w' ⟨rfl, rfl⟩)
  go_ret
  obtain ⟨m1, m2⟩ := I1.out.met 2
  exact ⟨rfl, m1, grownBy_trans G1.out m2⟩
set_option maxHeartbeats 400000 in
set_option maxRecDepth 100000 in
theorem num_amany (E : Nat → Addr) (m : Nat) (most : Nat) (bs x b : List UInt8) (c d r : Nat) (w : World) (hE : ErR w E r) (hr : RdI E m w r bs c) (ht : takeL 1 bs c = (x, b, d)) (hk : widN (leN x) = 0) (hd : d = 0) (hl : lenN (leN x) = 1) (hm : most < leN x) :
    Calls Tryz.prog 75 #[.pointer (some ⟨r, 0, none⟩), .int .u64 most] w (NumPost E m 0 b 4 r w) := by
  have HE := Lib.hid hE
  have HR := Lib.hid hr
  have HT := Lib.hid ht
  have HX : Hid (x.length ≤ 1) := by have := takeL_le 1 bs c; rw [ht] at this; exact this
  have HK : Hid (((widN (leN x) : Nat) : Int) = 0) := by show _ = _; simp [hk]
  have HD := Lib.hid hd
  clear hE hr ht hk hd
  have HL : Hid (((lenN (leN x) : Nat) : Int) = 1) := by show _ = _; rw [hl]; first | rfl | simp
  clear hl
  have hmi : (most : Int) < ((leN x : Nat) : Int) := by omega
  go_enter Tryz.func75, Tryz.ntmps75
  go_wp2_with fail
  refine (take_is E m 1 1 rfl bs x b c d r _ HE.out HR.out (by omega) HT.out).mono ?_
  rintro e w1 ⟨v1, rfl, s1, -, i1, g1⟩
  have S1 := Lib.hid s1
  have I1 := Lib.hid i1
  have G1 := Lib.hid g1
  clear s1 i1 g1
  go_wp2_with fail
  refine (number_any x v1 _ S1.out (by have := HX.out; omega)).mono ?_
  rintro e w' ⟨rfl, rfl⟩
  go_wp2_with fail
  refine (width_any (leN x) 0 _ HK.out).mono ?_
  rintro e w' ⟨rfl, rfl⟩
  have hc1 := I1.out.cells.1
  have hf1 := I1.out.cells.2
  rw [HD.out] at hc1
  change _ = some Value.nilIface at hc1
  have he := (HE.out.grown G1.out).1.2.2
  change _ = some (Value.iface 176 (.pointer (some (E 3)))) at he
  go_wp2_with (go_at_call 43; refine (len_is (leN x) (1) _ HL.out).mono ?_; rintro e w' ⟨rfl, rfl⟩)
  go_ret
  obtain ⟨m1, m2⟩ := I1.out.met 4
  exact ⟨rfl, m1, grownBy_trans G1.out m2⟩
set_option maxHeartbeats 400000 in
set_option maxRecDepth 100000 in
theorem num_afine (E : Nat → Addr) (m : Nat) (most : Nat) (bs x b : List UInt8) (c d r : Nat) (w : World) (hE : ErR w E r) (hr : RdI E m w r bs c) (ht : takeL 1 bs c = (x, b, d)) (hk : widN (leN x) = 0) (hd : d = 0) (hl : lenN (leN x) = 1) (hm : ¬ most < leN x) :
    Calls Tryz.prog 75 #[.pointer (some ⟨r, 0, none⟩), .int .u64 most] w (NumPost E m (leN x) b 0 r w) := by
  have HE := Lib.hid hE
  have HR := Lib.hid hr
  have HT := Lib.hid ht
  have HX : Hid (x.length ≤ 1) := by have := takeL_le 1 bs c; rw [ht] at this; exact this
  have HK : Hid (((widN (leN x) : Nat) : Int) = 0) := by show _ = _; simp [hk]
  have HD := Lib.hid hd
  clear hE hr ht hk hd
  have HL : Hid (((lenN (leN x) : Nat) : Int) = 1) := by show _ = _; rw [hl]; first | rfl | simp
  clear hl
  have hmi : ¬ (most : Int) < ((leN x : Nat) : Int) := by omega
  go_enter Tryz.func75, Tryz.ntmps75
  go_wp2_with fail
  refine (take_is E m 1 1 rfl bs x b c d r _ HE.out HR.out (by omega) HT.out).mono ?_
  rintro e w1 ⟨v1, rfl, s1, -, i1, g1⟩
  have S1 := Lib.hid s1
  have I1 := Lib.hid i1
  have G1 := Lib.hid g1
  clear s1 i1 g1
  go_wp2_with fail
  refine (number_any x v1 _ S1.out (by have := HX.out; omega)).mono ?_
  rintro e w' ⟨rfl, rfl⟩
  go_wp2_with fail
  refine (width_any (leN x) 0 _ HK.out).mono ?_
  rintro e w' ⟨rfl, rfl⟩
  have hc1 := I1.out.cells.1
  have hf1 := I1.out.cells.2
  rw [HD.out] at hc1
  change _ = some Value.nilIface at hc1
  go_wp2_with (go_at_call 43; refine (len_is (leN x) (1) _ HL.out).mono ?_; rintro e w' ⟨rfl, rfl⟩)
  go_ret
  exact ⟨rfl, by rw [← HD.out]; exact I1.out, G1.out⟩
set_option maxHeartbeats 400000 in
set_option maxRecDepth 100000 in
theorem num_berr (E : Nat → Addr) (m : Nat) (most : Nat) (bs x b : List UInt8) (c d r : Nat) (w : World) (hE : ErR w E r) (hr : RdI E m w r bs c) (ht : takeL 1 bs c = (x, b, d)) (k : Nat) (hk : widN (leN x) = k) (hk0 : 0 < k) (x2 b2 : List UInt8) (d2 : Nat) (ht2 : takeL k b d = (x2, b2, d2)) (q : Nat) (hd : d2 = q + 1) :
    Calls Tryz.prog 75 #[.pointer (some ⟨r, 0, none⟩), .int .u64 most] w (NumPost E m 0 b2 (q + 1) r w) := by
  have HE := Lib.hid hE
  have HR := Lib.hid hr
  have HT := Lib.hid ht
  have HX : Hid (x.length ≤ 1) := by have := takeL_le 1 bs c; rw [ht] at this; exact this
  have HK : Hid (((widN (leN x) : Nat) : Int) = (k : Int)) := by show _ = _; simp [hk]
  have hk8 : k ≤ 8 := by rw [← hk]; exact widN_le _
  have HT2 := Lib.hid ht2
  have HX2 : Hid (x2.length ≤ k) := by have := takeL_le k b d; rw [ht2] at this; exact this
  have hki : (0 : Int) < (k : Int) := by omega
  clear ht2
  have HD := Lib.hid hd
  clear hE hr ht hk hd
  go_enter Tryz.func75, Tryz.ntmps75
  go_wp2_with fail
  refine (take_is E m 1 1 rfl bs x b c d r _ HE.out HR.out (by omega) HT.out).mono ?_
  rintro e w1 ⟨v1, rfl, s1, -, i1, g1⟩
  have S1 := Lib.hid s1
  have I1 := Lib.hid i1
  have G1 := Lib.hid g1
  clear s1 i1 g1
  go_wp2_with fail
  refine (number_any x v1 _ S1.out (by have := HX.out; omega)).mono ?_
  rintro e w' ⟨rfl, rfl⟩
  go_wp2_with fail
  refine (width_any (leN x) (k : Int) _ HK.out).mono ?_
  rintro e w' ⟨rfl, rfl⟩
  go_wp2_with fail
  refine (take_is E m k k rfl b x2 b2 d d2 r _ (HE.out.grown G1.out) I1.out (by omega) HT2.out).mono ?_
  rintro e w2 ⟨v2, rfl, s2, -, i2, g2⟩
  have S2 := Lib.hid s2
  have I2 := Lib.hid i2
  have G2 := Lib.hid (grownBy_trans G1.out g2)
  clear s2 i2 g2
  go_wp2_with fail
  refine (number_any x2 v2 _ S2.out (by have := HX2.out; omega)).mono ?_
  rintro e w' ⟨rfl, rfl⟩
  have hc1 := I2.out.cells.1
  rw [HD.out] at hc1
  change _ = some (Value.iface 176 (.pointer (some (E q)))) at hc1
  go_wp2_with fail
  go_ret
  exact ⟨rfl, by rw [← HD.out]; exact I2.out, G2.out⟩
set_option maxHeartbeats 400000 in
set_option maxRecDepth 100000 in
theorem num_bshape (E : Nat → Addr) (m : Nat) (most : Nat) (bs x b : List UInt8) (c d r : Nat) (w : World) (hE : ErR w E r) (hr : RdI E m w r bs c) (ht : takeL 1 bs c = (x, b, d)) (k : Nat) (hk : widN (leN x) = k) (hk0 : 0 < k) (x2 b2 : List UInt8) (d2 : Nat) (ht2 : takeL k b d = (x2, b2, d2)) (hd : d2 = 0) (hl : lenN (leN x2) ≠ 1 + k) :
    Calls Tryz.prog 75 #[.pointer (some ⟨r, 0, none⟩), .int .u64 most] w (NumPost E m 0 b2 2 r w) := by
  have HE := Lib.hid hE
  have HR := Lib.hid hr
  have HT := Lib.hid ht
  have HX : Hid (x.length ≤ 1) := by have := takeL_le 1 bs c; rw [ht] at this; exact this
  have HK : Hid (((widN (leN x) : Nat) : Int) = (k : Int)) := by show _ = _; simp [hk]
  have hk8 : k ≤ 8 := by rw [← hk]; exact widN_le _
  have HT2 := Lib.hid ht2
  have HX2 : Hid (x2.length ≤ k) := by have := takeL_le k b d; rw [ht2] at this; exact this
  have hki : (0 : Int) < (k : Int) := by omega
  clear ht2
  have HD := Lib.hid hd
  clear hE hr ht hk hd
  obtain ⟨L, hL⟩ : ∃ L : Int, L = ((lenN (leN x2) : Nat) : Int) := ⟨_, rfl⟩
  have hne : (L == 1 + (k : Int)) = false := by rw [beq_eq_false_iff_ne, hL]; intro e; exact hl (by omega)
  have hne' : (L != 1 + (k : Int)) = true := by simp [bne, hne]
  have HL : Hid (((lenN (leN x2) : Nat) : Int) = L) := hL.symm
  clear hL hl
  go_enter Tryz.func75, Tryz.ntmps75
  go_wp2_with fail
  refine (take_is E m 1 1 rfl bs x b c d r _ HE.out HR.out (by omega) HT.out).mono ?_
  rintro e w1 ⟨v1, rfl, s1, -, i1, g1⟩
  have S1 := Lib.hid s1
  have I1 := Lib.hid i1
  have G1 := Lib.hid g1
  clear s1 i1 g1
  go_wp2_with fail
  refine (number_any x v1 _ S1.out (by have := HX.out; omega)).mono ?_
  rintro e w' ⟨rfl, rfl⟩
  go_wp2_with fail
  refine (width_any (leN x) (k : Int) _ HK.out).mono ?_
  rintro e w' ⟨rfl, rfl⟩
  go_wp2_with fail
  refine (take_is E m k k rfl b x2 b2 d d2 r _ (HE.out.grown G1.out) I1.out (by omega) HT2.out).mono ?_
  rintro e w2 ⟨v2, rfl, s2, -, i2, g2⟩
  have S2 := Lib.hid s2
  have I2 := Lib.hid i2
  have G2 := Lib.hid (grownBy_trans G1.out g2)
  clear s2 i2 g2
  go_wp2_with fail
  refine (number_any x2 v2 _ S2.out (by have := HX2.out; omega)).mono ?_
  rintro e w' ⟨rfl, rfl⟩
  have hc1 := I2.out.cells.1
  have hf1 := I2.out.cells.2
  rw [HD.out] at hc1
  change _ = some Value.nilIface at hc1
  have he := (HE.out.grown G2.out).1.2.1
  change _ = some (Value.iface 176 (.pointer (some (E 1)))) at he
  go_wp2_with (go_at_call 43; refine (len_is (leN x2) (L) _ HL.out).mono ?_; rintro e w' ⟨rfl, rfl⟩)
  go_ret
  obtain ⟨m1, m2⟩ := I2.out.met 2
  exact ⟨rfl, m1, grownBy_trans G2.out m2⟩
set_option maxHeartbeats 400000 in
set_option maxRecDepth 100000 in
theorem num_bmany (E : Nat → Addr) (m : Nat) (most : Nat) (bs x b : List UInt8) (c d r : Nat) (w : World) (hE : ErR w E r) (hr : RdI E m w r bs c) (ht : takeL 1 bs c = (x, b, d)) (k : Nat) (hk : widN (leN x) = k) (hk0 : 0 < k) (x2 b2 : List UInt8) (d2 : Nat) (ht2 : takeL k b d = (x2, b2, d2)) (hd : d2 = 0) (hl : lenN (leN x2) = 1 + k) (hm : most < leN x2) :
    Calls Tryz.prog 75 #[.pointer (some ⟨r, 0, none⟩), .int .u64 most] w (NumPost E m 0 b2 4 r w) := by
  have HE := Lib.hid hE
  have HR := Lib.hid hr
  have HT := Lib.hid ht
  have HX : Hid (x.length ≤ 1) := by have := takeL_le 1 bs c; rw [ht] at this; exact this
  have HK : Hid (((widN (leN x) : Nat) : Int) = (k : Int)) := by show _ = _; simp [hk]
  have hk8 : k ≤ 8 := by rw [← hk]; exact widN_le _
  have HT2 := Lib.hid ht2
  have HX2 : Hid (x2.length ≤ k) := by have := takeL_le k b d; rw [ht2] at this; exact this
  have hki : (0 : Int) < (k : Int) := by omega
  clear ht2
  have HD := Lib.hid hd
  clear hE hr ht hk hd
  have HL : Hid (((lenN (leN x2) : Nat) : Int) = 1 + (k : Int)) := by show _ = _; rw [hl]; first | rfl | simp
  clear hl
  have hmi : (most : Int) < ((leN x2 : Nat) : Int) := by omega
  go_enter Tryz.func75, Tryz.ntmps75
  go_wp2_with fail
  refine (take_is E m 1 1 rfl bs x b c d r _ HE.out HR.out (by omega) HT.out).mono ?_
  rintro e w1 ⟨v1, rfl, s1, -, i1, g1⟩
  have S1 := Lib.hid s1
  have I1 := Lib.hid i1
  have G1 := Lib.hid g1
  clear s1 i1 g1
  go_wp2_with fail
  refine (number_any x v1 _ S1.out (by have := HX.out; omega)).mono ?_
  rintro e w' ⟨rfl, rfl⟩
  go_wp2_with fail
  refine (width_any (leN x) (k : Int) _ HK.out).mono ?_
  rintro e w' ⟨rfl, rfl⟩
  go_wp2_with fail
  refine (take_is E m k k rfl b x2 b2 d d2 r _ (HE.out.grown G1.out) I1.out (by omega) HT2.out).mono ?_
  rintro e w2 ⟨v2, rfl, s2, -, i2, g2⟩
  have S2 := Lib.hid s2
  have I2 := Lib.hid i2
  have G2 := Lib.hid (grownBy_trans G1.out g2)
  clear s2 i2 g2
  go_wp2_with fail
  refine (number_any x2 v2 _ S2.out (by have := HX2.out; omega)).mono ?_
  rintro e w' ⟨rfl, rfl⟩
  have hc1 := I2.out.cells.1
  have hf1 := I2.out.cells.2
  rw [HD.out] at hc1
  change _ = some Value.nilIface at hc1
  have he := (HE.out.grown G2.out).1.2.2
  change _ = some (Value.iface 176 (.pointer (some (E 3)))) at he
  go_wp2_with (go_at_call 43; refine (len_is (leN x2) (1 + (k : Int)) _ HL.out).mono ?_; rintro e w' ⟨rfl, rfl⟩)
  go_ret
  obtain ⟨m1, m2⟩ := I2.out.met 4
  exact ⟨rfl, m1, grownBy_trans G2.out m2⟩
set_option maxHeartbeats 400000 in
set_option maxRecDepth 100000 in
theorem num_bfine (E : Nat → Addr) (m : Nat) (most : Nat) (bs x b : List UInt8) (c d r : Nat) (w : World) (hE : ErR w E r) (hr : RdI E m w r bs c) (ht : takeL 1 bs c = (x, b, d)) (k : Nat) (hk : widN (leN x) = k) (hk0 : 0 < k) (x2 b2 : List UInt8) (d2 : Nat) (ht2 : takeL k b d = (x2, b2, d2)) (hd : d2 = 0) (hl : lenN (leN x2) = 1 + k) (hm : ¬ most < leN x2) :
    Calls Tryz.prog 75 #[.pointer (some ⟨r, 0, none⟩), .int .u64 most] w (NumPost E m (leN x2) b2 0 r w) := by
  have HE := Lib.hid hE
  have HR := Lib.hid hr
  have HT := Lib.hid ht
  have HX : Hid (x.length ≤ 1) := by have := takeL_le 1 bs c; rw [ht] at this; exact this
  have HK : Hid (((widN (leN x) : Nat) : Int) = (k : Int)) := by show _ = _; simp [hk]
  have hk8 : k ≤ 8 := by rw [← hk]; exact widN_le _
  have HT2 := Lib.hid ht2
  have HX2 : Hid (x2.length ≤ k) := by have := takeL_le k b d; rw [ht2] at this; exact this
  have hki : (0 : Int) < (k : Int) := by omega
  clear ht2
  have HD := Lib.hid hd
  clear hE hr ht hk hd
  have HL : Hid (((lenN (leN x2) : Nat) : Int) = 1 + (k : Int)) := by show _ = _; rw [hl]; first | rfl | simp
  clear hl
  have hmi : ¬ (most : Int) < ((leN x2 : Nat) : Int) := by omega
  go_enter Tryz.func75, Tryz.ntmps75
  go_wp2_with fail
  refine (take_is E m 1 1 rfl bs x b c d r _ HE.out HR.out (by omega) HT.out).mono ?_
  rintro e w1 ⟨v1, rfl, s1, -, i1, g1⟩
  have S1 := Lib.hid s1
  have I1 := Lib.hid i1
  have G1 := Lib.hid g1
  clear s1 i1 g1
  go_wp2_with fail
  refine (number_any x v1 _ S1.out (by have := HX.out; omega)).mono ?_
  rintro e w' ⟨rfl, rfl⟩
  go_wp2_with fail
  refine (width_any (leN x) (k : Int) _ HK.out).mono ?_
  rintro e w' ⟨rfl, rfl⟩
  go_wp2_with fail
  refine (take_is E m k k rfl b x2 b2 d d2 r _ (HE.out.grown G1.out) I1.out (by omega) HT2.out).mono ?_
  rintro e w2 ⟨v2, rfl, s2, -, i2, g2⟩
  have S2 := Lib.hid s2
  have I2 := Lib.hid i2
  have G2 := Lib.hid (grownBy_trans G1.out g2)
  clear s2 i2 g2
  go_wp2_with fail
  refine (number_any x2 v2 _ S2.out (by have := HX2.out; omega)).mono ?_
  rintro e w' ⟨rfl, rfl⟩
  have hc1 := I2.out.cells.1
  have hf1 := I2.out.cells.2
  rw [HD.out] at hc1
  change _ = some Value.nilIface at hc1
  go_wp2_with (go_at_call 43; refine (len_is (leN x2) (1 + (k : Int)) _ HL.out).mono ?_; rintro e w' ⟨rfl, rfl⟩)
  go_ret
  exact ⟨rfl, by rw [← HD.out]; exact I2.out, G2.out⟩
theorem num_any (E : Nat → Addr) (m : Nat) (most : Nat) (bs : List UInt8) (c r : Nat) (w : World) (hE : ErR w E r) (hr : RdI E m w r bs c) :
    Calls Tryz.prog 75 #[.pointer (some ⟨r, 0, none⟩), .int .u64 most] w (NumPost E m (numL most bs c).1 (numL most bs c).2.1 (numL most bs c).2.2 r w) := by
  obtain ⟨x, b, d, ht⟩ : ∃ x b d, takeL 1 bs c = (x, b, d) := ⟨_, _, _, rfl⟩
  obtain ⟨k, hk⟩ : ∃ k, widN (leN x) = k := ⟨_, rfl⟩
  unfold numL
  simp only [ht, hk]
  by_cases hk0 : k = 0
  · subst hk0
    simp only [if_pos]
    cases hd : d with
    | succ q => exact num_aerr E m most bs x b c d r w hE hr ht hk q hd
    | zero =>
      rw [if_neg (by omega)]
      by_cases hl : lenN (leN x) = 1
      · rw [if_neg (by omega)]
        by_cases hm : most < leN x
        · rw [if_pos hm]; exact num_amany E m most bs x b c d r w hE hr ht hk hd hl hm
        · rw [if_neg hm]; exact num_afine E m most bs x b c d r w hE hr ht hk hd hl hm
      · rw [if_pos (by omega)]; exact num_ashape E m most bs x b c d r w hE hr ht hk hd hl
  · rw [if_neg hk0]
    obtain ⟨x2, b2, d2, ht2⟩ : ∃ x b' d', takeL k b d = (x, b', d') := ⟨_, _, _, rfl⟩
    simp only [ht2]
    cases hd : d2 with
    | succ q => exact num_berr E m most bs x b c d r w hE hr ht k hk (by omega) x2 b2 d2 ht2 q hd
    | zero =>
      rw [if_neg (by omega)]
      by_cases hl : lenN (leN x2) = 1 + k
      · rw [if_neg (by omega)]
        by_cases hm : most < leN x2
        · rw [if_pos hm]; exact num_bmany E m most bs x b c d r w hE hr ht k hk (by omega) x2 b2 d2 ht2 hd hl hm
        · rw [if_neg hm]; exact num_bfine E m most bs x b c d r w hE hr ht k hk (by omega) x2 b2 d2 ht2 hd hl hm
      · rw [if_pos (by omega)]; exact num_bshape E m most bs x b c d r w hE hr ht k hk (by omega) x2 b2 d2 ht2 hd hl
end Go.Proofs.YtdamhoagiooicaaGreatDoor.Sha

/-
  A Reader's Four, Eight and Bytes answer what the chapter says, and leave what it says; Hash behind an error answers no digest. Conditions: the Reader stands as it should; the three errors are there.
-/
namespace Go.Proofs.YtdamhoagiooicaaGreatDoor.Sha
open Go Go.RowKit
set_option maxRecDepth 100000 in
theorem eight_is (E : Nat → Addr) (m : Nat) (bs x b : List UInt8) (c d r : Nat) (w : World) (hE : ErR w E r) (hr : RdI E m w r bs c) (ht : takeL 8 bs c = (x, b, d)) :
    Calls Tryz.prog 134 #[.pointer (some ⟨r, 0, none⟩)] w (NumPost E m (leN x) b d r w) := by
  have HE := Lib.hid hE
  have HR := Lib.hid hr
  have HT := Lib.hid ht
  have HX : Hid (x.length ≤ 8) := by have := takeL_le 8 bs c; rw [ht] at this; exact this
  clear hE hr ht
  go_enter Tryz.func134, Tryz.ntmps134
  go_wp2_with fail
  refine (take_is E m 8 8 rfl bs x b c d r _ HE.out HR.out (by omega) HT.out).mono ?_
  rintro e w1 ⟨v1, rfl, s1, -, i1, g1⟩
  have S1 := Lib.hid s1
  have I1 := Lib.hid i1
  have G1 := Lib.hid g1
  clear s1 i1 g1
  go_wp2_with fail
  refine (number_any x v1 _ S1.out HX.out).mono ?_
  rintro e w' ⟨rfl, rfl⟩
  go_wp2_with fail
  go_ret
  exact ⟨rfl, I1.out, G1.out⟩
def FourPost (E : Nat → Addr) (m : Nat) (n : Nat) (b : List UInt8) (d r : Nat) (w : World) (e : Ending) (w' : World) : Prop :=
  e = .returned (.int .u32 n) ∧ RdI E m w' r b d ∧ w.grownBy w' (some r)
set_option maxRecDepth 100000 in
theorem four_is (E : Nat → Addr) (m : Nat) (bs x b : List UInt8) (c d r : Nat) (w : World) (hE : ErR w E r) (hr : RdI E m w r bs c) (ht : takeL 4 bs c = (x, b, d)) :
    Calls Tryz.prog 106 #[.pointer (some ⟨r, 0, none⟩)] w (FourPost E m (leN x) b d r w) := by
  have HE := Lib.hid hE
  have HR := Lib.hid hr
  have HT := Lib.hid ht
  have hx : x.length ≤ 4 := by have := takeL_le 4 bs c; rw [ht] at this; exact this
  have hlt : leN x < 4294967296 := by
    have h1 := leN_lt x
    have h2 : 256 ^ x.length ≤ 256 ^ 4 := Nat.pow_le_pow_right (by omega) hx
    have h3 : (256 : Nat) ^ 4 = 4294967296 := rfl
    omega
  have HX := Lib.hid hx
  obtain ⟨n, hn⟩ : ∃ n, n = leN x := ⟨_, rfl⟩
  rw [← hn] at hlt ⊢
  have HN := Lib.hid hn
  have hmod : (n : Int) % 4294967296 = (n : Int) := by omega
  clear hE hr ht hx hn
  go_enter Tryz.func106, Tryz.ntmps106
  go_wp2_with fail
  refine (take_is E m 4 4 rfl bs x b c d r _ HE.out HR.out (by omega) HT.out).mono ?_
  rintro e w1 ⟨v1, rfl, s1, -, i1, g1⟩
  have S1 := Lib.hid s1
  have I1 := Lib.hid i1
  have G1 := Lib.hid g1
  clear s1 i1 g1
  go_wp2_with fail
  have hnum := number_any x v1 w1 S1.out (by have := HX.out; omega)
  rw [← HN.out] at hnum
  refine hnum.mono ?_
  rintro e w' ⟨rfl, rfl⟩
  clear hnum
  go_wp2_with fail
  go_ret
  exact ⟨ret_int (by omega), I1.out, G1.out⟩
def BytesPost (E : Nat → Addr) (m : Nat) (x b : List UInt8) (d r : Nat) (w : World) (e : Ending) (w' : World) : Prop :=
  ∃ v, e = .returned v ∧ w'.ownsRow w.heap.size 5 1 v x.length (x.map bV) ∧ RdI E m w' r b d ∧ w.grownBy w' (some r)
theorem grownBy_below' {w w1 w2 : World} {row : Option Nat} (h : w.grownBy w1 row) (hb : Below w1.heap.size w1 w2) : w.grownBy w2 row := grownBy_trans h (grownBy_of_below hb row)
set_option maxRecDepth 100000 in
theorem bytes_is (E : Nat → Addr) (m : Nat) (n : Int) (k : Nat) (hk : k = n.toNat) (bs x b : List UInt8) (c d r : Nat) (w : World) (hE : ErR w E r) (hr : RdI E m w r bs c) (ht : takeL k bs c = (x, b, d)) (hn : n ≤ 9223372036854775807) (hl : bs.length ≤ 70368744177664) :
    Calls Tryz.prog 133 #[.pointer (some ⟨r, 0, none⟩), .int .i64 n] w (BytesPost E m x b d r w) := by
  have HE := Lib.hid hE
  have HR := Lib.hid hr
  have HT := Lib.hid ht
  have hx : x.length ≤ 70368744177664 := by
    have h1 : x.length ≤ bs.length := by
      unfold takeL at ht
      split at ht
      · cases ht; simp
      · split at ht
        · cases ht; simp
        · cases ht; simp [List.length_take]; omega
    omega
  have HX := Lib.hid hx
  by_cases h0 : n < 0
  · have hk0 : k = 0 := by omega
    subst hk0
    clear hk hE hr ht hx
    go_enter Tryz.func133, Tryz.ntmps133
    go_wp2_with fail
    refine (take_is E m 0 0 rfl bs x b c d r _ HE.out HR.out (by omega) HT.out).mono ?_
    rintro e w1 ⟨v1, rfl, s1, -, i1, g1⟩
    have S1 := Lib.hid s1
    have I1 := Lib.hid i1
    have G1 := Lib.hid g1
    clear s1 i1 g1
    go_wp2_with fail
    refine (clone_any x v1 _ S1.out HX.out).mono ?_
    rintro e w2 ⟨v2, rfl, h2⟩
    have H2 := Lib.hid h2
    clear h2
    go_wp2_with fail
    go_ret
    exact ⟨_, rfl, own_base H2.out.1 G1.out.size, I1.out.below H2.out.2, grownBy_below' G1.out H2.out.2⟩
  · obtain ⟨q, rfl⟩ : ∃ q : Nat, n = (q : Int) := ⟨n.toNat, by omega⟩
    have hkq : k = q := by omega
    subst hkq
    have h0' : ¬ (k : Int) < 0 := by omega
    clear hk hE hr ht hx h0
    go_enter Tryz.func133, Tryz.ntmps133
    go_wp2_with fail
    refine (take_is E m k k rfl bs x b c d r _ HE.out HR.out (by omega) HT.out).mono ?_
    rintro e w1 ⟨v1, rfl, s1, -, i1, g1⟩
    have S1 := Lib.hid s1
    have I1 := Lib.hid i1
    have G1 := Lib.hid g1
    clear s1 i1 g1
    go_wp2_with fail
    refine (clone_any x v1 _ S1.out HX.out).mono ?_
    rintro e w2 ⟨v2, rfl, h2⟩
    have H2 := Lib.hid h2
    clear h2
    go_wp2_with fail
    go_ret
    exact ⟨_, rfl, own_base H2.out.1 G1.out.size, I1.out.below H2.out.2, grownBy_below' G1.out H2.out.2⟩
end Go.Proofs.YtdamhoagiooicaaGreatDoor.Sha

/-
  A Reader's Hash answers the next 32 bytes, or no digest, and leaves what the chapter says. Conditions: the Reader stands as it should; the three errors are there.
-/
namespace Go.Proofs.YtdamhoagiooicaaGreatDoor.Sha
open Go Go.RowKit
/-- Bytes filled up to a digest's 32. -/
def padH (x : List UInt8) : List UInt8 := x ++ List.replicate (32 - x.length) 0
theorem padH_length {x : List UInt8} (h : x.length ≤ 32) : (padH x).length = 32 := by simp [padH]; omega
theorem splice_zero (x : List UInt8) (_ : x.length ≤ 32) : splice (List.replicate 32 (bV 0)) 0 (x.map bV) = (padH x).map bV := by
  have e : List.drop x.length (List.replicate 32 (bV 0)) = List.replicate (32 - x.length) (bV 0) := List.drop_replicate ..
  unfold splice padH
  rw [List.length_map, Nat.zero_add, e, List.take_zero, List.nil_append, List.map_append, List.map_replicate]
def HashPost (E : Nat → Addr) (m : Nat) (x b : List UInt8) (d r : Nat) (w : World) (e : Ending) (w' : World) : Prop :=
  e = .returned (.agg ((padH x).map bV).toArray) ∧ RdI E m w' r b d ∧ w.grownBy w' (some r)
theorem hash_end {w w1 w2 : World} {r : Nat} {o : Obj} (_ : r < w.heap.size) (g1 : (w.alloc o).drew.grownBy w1 (some r)) (h : Below w.heap.size w1 w2) : w.grownBy w2 (some r) := by
  refine ⟨h.os.trans g1.os, h.tape.trans g1.tape, h.output.trans g1.output, ?_, fun k hk hne => ?_⟩
  · have h1 := g1.size
    have h2 := h.size
    have h3 : (w.alloc o).drew.heap.size = w.heap.size + 1 := by simp [World.drew]
    omega
  · rw [h.block k hk, g1.block k (by simp [World.drew]; omega) hne]
    exact ((Below.refl w.heap.size w).alloc (Nat.le_refl _) o).drew.block k hk
theorem grown_then {w w2 w3 : World} {r : Nat} (h : w.grownBy w2 (some r)) (hb : Below w.heap.size w2 w3) : w.grownBy w3 (some r) :=
  ⟨hb.os.trans h.os, hb.tape.trans h.tape, hb.output.trans h.output, Nat.le_trans h.size hb.size, fun k hk hne => by rw [hb.block k hk]; exact h.block k hk hne⟩
theorem hash_row {w w1 : World} {r : Nat} {o : Obj} (hr : r < w.heap.size) (g1 : (w.alloc o).drew.grownBy w1 (some r)) : w1.heap[w.heap.size]? = some o := by
  rw [g1.block w.heap.size (by simp [World.drew]) (fun e => by have := Option.some.inj e; omega)]
  exact heap_alloc_new _ _
theorem src_cells {w : World} {sp : Option Addr} {n cap : Nat} {bs : List UInt8} (h : SrcB w (.slice sp n cap) bs) (g off : Nat) (h0 : 0 < (bs.map bV).length) : (some ⟨g, off, none⟩ : Option Addr) = some ⟨g, off, none⟩ ∧ ∃ ad, sp = some ad ∧ ∀ j v, (bs.map bV)[j]? = some v → w.cell? (ad.add j) = some v := by
  refine ⟨rfl, ?_⟩
  rcases h with ⟨sp', cap', hv, rfl⟩ | ⟨h1, bb, o, cap', hv, _, hc⟩
  · simp at h0
  · cases hv
    refine ⟨_, rfl, fun j v hj => ?_⟩
    rw [List.getElem?_map] at hj
    obtain ⟨b, hb, rfl⟩ := Option.map_eq_some_iff.1 hj
    have hlt := (List.getElem?_eq_some_iff.1 hb).1
    rw [Addr.add_mid, hc j hlt]
    simp [bV, List.getD, hb]
theorem copy_fact {w1 : World} {g n cap : Nat} {sp : Option Addr} {x : List UInt8} {T : TypeId} (hs : SrcB w1 (.slice sp n cap) x) (hn : n = x.length) (hx : x.length ≤ 32) (hg : w1.heap[g]? = some (.cells (List.replicate 32 (bV 0)).toArray T (0, 0))) :
    ∃ w2, (∀ ty, (Builtin.copy_ #[30, 30] ty #[.slice (some ⟨g, 0, none⟩) 32 32, .slice sp n cap]).run Tryz.prog w1 = .ok (goInt n) w2) ∧ w2.heap[g]? = some (.cells ((padH x).map bV).toArray T (0, 0)) ∧ Below g w1 w2 := by
  have hsz : (Tryz.prog.info? 5).map (·.size) = some 1 := by kernel_rfl
  have hmin : Nat.min n 32 = n := Nat.min_eq_left (by omega)
  by_cases h0 : n = 0
  · have hx0 : x = [] := List.eq_nil_of_length_eq_zero (by omega)
    refine ⟨w1, fun ty => ?_, ?_, Below.refl _ _⟩
    · rw [h0]
      exact run_copy_none w1 30 30 ty 5 (some ⟨g, 0, none⟩) sp 32 32 0 cap Tryz.underlying30 hsz rfl
    · rw [hx0, hg]
      simp [padH]
  · obtain ⟨-, ad, rfl, hc⟩ := src_cells hs g 0 (by simp; omega)
    refine ⟨_, fun ty => ?_, setRow_heap w1 g _ _ _ _ hg, below_setRow (Below.refl _ _) (Nat.le_refl _) _⟩
    have h := run_copy_row (P := Tryz.prog) w1 30 30 ty 5 g 0 32 32 ad n cap _ T (x.map bV) Tryz.underlying30 hsz hg (by rw [List.length_map, hmin, hn]) hc (by simp; omega) (bV_one' _)
    have e := splice_zero x hx
    unfold splice at e
    rw [List.length_map] at e h
    rw [← hn] at h e
    rw [← List.append_assoc] at e
    simp only [] at h
    rw [e] at h
    exact h
set_option maxHeartbeats 1000000 in
set_option maxRecDepth 100000 in
theorem hash_is (E : Nat → Addr) (m : Nat) (bs x b : List UInt8) (c d r : Nat) (w : World) (hE : ErR w E r) (hr : RdI E m w r bs c) (ht : takeL 32 bs c = (x, b, d)) :
    Calls Tryz.prog 107 #[.pointer (some ⟨r, 0, none⟩)] w (HashPost E m x b d r w) := by
  have hb0 : ∀ o, Below w.heap.size w (w.alloc o).drew := fun o => ((Below.refl _ _).alloc (Nat.le_refl _) o).drew
  have HE : Hid (∀ o, ErR (w.alloc o).drew E r) := fun o => hE.below (hb0 o)
  have HR : Hid (∀ o, RdI E m (w.alloc o).drew r bs c) := fun o => hr.below (hb0 o)
  have HT := Lib.hid ht
  have HRW := Lib.hid hr.lt
  have HM : Hid (b ≠ [] → m < w.heap.size) := fun h => hr.m_lt (fun e => h (by
    unfold takeL at ht
    rw [e] at ht
    split at ht
    · cases ht; rfl
    · split at ht
      · cases ht; rfl
      · cases ht; simp))
  have hx : x.length ≤ 32 := by have := takeL_le 32 bs c; rw [ht] at this; exact this
  have HX := Lib.hid hx
  have HPL : Hid (((padH x).map bV).toArray.size = 32) := by show _ = _; simp [padH_length hx]
  clear hE hr ht hb0 hx
  go_enter Tryz.func107, Tryz.ntmps107
  go_wp2_with fail
  go_region_with (go_at_call 109; refine (take_is E m 32 32 rfl bs x b c d r _ (HE.out _) (HR.out _) (by omega) HT.out).mono ?_; rintro e w1 ⟨v1, rfl, s1, a1, i1, g1⟩; obtain ⟨sp1, n1, cap1, rfl, hn1, -⟩ := s1.shape'; obtain ⟨w2, hrun, hg2, hb2⟩ := copy_fact s1 hn1 HX.out (hash_row HRW.out g1); have I2 := Lib.hid (i1.at hb2 HRW.out HM.out); have F2 := Lib.hid hg2; have G2 := Lib.hid (hash_end HRW.out g1 hb2); clear s1 a1 i1 g1 hn1 hg2 hb2)
  all_goals
    go_wp2_with ((with_reducible show wpList _ _ _ _ _ _); first | (refine wpList_load_row rfl 24 (.tmp 2) rfl w.heap.size rfl 24 ((padH x).map bV).toArray (0, 0) (.array 32 5) F2.out Tryz.underlying24 rfl (by rw [HPL.out]; kernel_rfl) ?_; go_frame) | (refine wpList_store_row rfl 24 (.tmp 2) (.tmp 7) rfl w.heap.size ((padH x).map bV).toArray rfl rfl 24 _ F2.out (by rw [HPL.out]; kernel_rfl) rfl (bV_one _) ?_; go_frame))
    refine bodyPost_ret (results_cell_row rfl _ _ w.heap.size 24 ((padH x).map bV).toArray (0, 0) (.array 32 5) rfl (setRow_heap _ _ _ _ _ _ F2.out) Tryz.underlying24 rfl (by rw [HPL.out]; kernel_rfl)) rfl ⟨rfl, I2.out.at (below_setRow (Below.refl _ _) (Nat.le_refl _) _) HRW.out HM.out, grown_then G2.out (below_setRow (Below.refl _ _) (Nat.le_refl _) _)⟩
end Go.Proofs.YtdamhoagiooicaaGreatDoor.Sha

/-
  The statements' own Fault, Same and Is: an error of package api, or none, is told by its number. Conditions: the errors are there, each its own.
-/
namespace Go.Proofs.YtdamhoagiooicaaGreatDoor.Sha
open Go Go.RowKit
/-- A fault with nothing around it. -/
def fC (c : Int) : List Value := [.int .i64 c, .bool false, .int .i64 0, .bool false, .int .i64 0]
/-- The number of an error. -/
def numE : Nat → Int
  | 0 => 0
  | q + 1 => ((101 + q : Nat) : Int)
set_option maxRecDepth 100000 in
theorem none_any (w : World) : Calls Tryz.prog 62 #[] w fun e w' => e = .returned (.agg (fC 0).toArray) ∧ Below w.heap.size w w' := by
  go_enter Tryz.func62, Tryz.ntmps62
  go_wp2
  refine bodyPost_ret (v := .agg (fC 0).toArray) (by simp [results, Tryz.results62, go_sem]; rfl) rfl ⟨rfl, ?_⟩
  exact (Below.refl _ _).alloc (Nat.le_refl _) _
set_option maxRecDepth 100000 in
theorem bare_any (c : Int) (w : World) : Calls Tryz.prog 57 #[.int .i64 c] w fun e w' => e = .returned (.agg (fC c).toArray) ∧ Below w.heap.size w w' := by
  go_enter Tryz.func57, Tryz.ntmps57
  go_wp2
  refine bodyPost_ret (v := .agg (fC c).toArray) (by simp [results, Tryz.results57, go_sem]; rfl) rfl ⟨rfl, ?_⟩
  exact (Below.refl _ _).alloc (Nat.le_refl _) _
theorem fault_all (c : Int) : (fC c).toArray.all (·.oneCell') = true := by
  rw [Array.all_eq_true_iff_forall_mem]
  intro x hx
  simp [fC] at hx
  rcases hx with rfl | rfl | rfl | rfl | rfl <;> rfl
set_option maxRecDepth 100000 in
theorem fault_nil (w : World) : Calls Tryz.prog 52 #[.nilIface] w fun e w' => e = .returned (.agg (fC 0).toArray) ∧ Below w.heap.size w w' := by
  go_enter Tryz.func52, Tryz.ntmps52
  go_wp2_with fail
  refine (none_any _).mono ?_
  rintro e w1 ⟨rfl, hb1⟩
  obtain ⟨hb2, hr, hlt⟩ := twice_setup hb1
  have HB1 := Lib.hid hb2
  have HR := Lib.hid hr
  clear hb1 hb2 hr
  go_wp2_with ((with_reducible show wpList _ _ _ _ _ _); refine wpList_store_row rfl 53 (.tmp 2) (.tmp 9) rfl w.heap.size (fC 0).toArray rfl rfl 53 _ HR.out (by kernel_rfl) rfl (fault_all _) ?_; go_frame)
  refine bodyPost_ret (results_cell_row rfl _ _ w.heap.size 53 (fC 0).toArray (0, 0) _ rfl (setRow_heap _ _ _ _ _ _ HR.out) Tryz.underlying53 rfl (by kernel_rfl)) rfl ⟨rfl, below_setRow HB1.out (Nat.le_refl _) _⟩
set_option maxRecDepth 100000 in
theorem fault_err (E : Nat → Addr) (q : Nat) (w : World) (hE : Errs w E) (hq : q < 25) : Calls Tryz.prog 52 #[errV E (q + 1)] w fun e w' => e = .returned (.agg (fC ((101 + q : Nat) : Int)).toArray) ∧ Below w.heap.size w w' := by
  obtain ⟨kk, hkk⟩ : ∃ kk : Int, kk = ((101 + q : Nat) : Int) := ⟨_, rfl⟩
  rw [← hkk]
  have hta : ∀ W, (Instr.typeAssert (.iface 176 (.pointer (some (E q)))) 35 126 true).run Tryz.prog W = .ok (.tuple #[.pointer none, .bool false]) W := fun W => by kernel_rfl
  have hb0 : ∀ o, Below w.heap.size w (w.alloc o) := fun o => (Below.refl _ _).alloc (Nat.le_refl _) o
  have HS : Hid (∀ o, Calls Tryz.prog 91 #[errV E (q + 1)] (w.alloc o) fun e w' => e = .returned (.int .i64 kk) ∧ Below (w.alloc o).heap.size (w.alloc o) w') := fun o => sentinel_any E q kk hkk _ (hE.below (hb0 o)) hq
  clear hb0 hkk hE
  show Calls Tryz.prog 52 #[.iface 176 (.pointer (some (E q)))] w _
  go_enter Tryz.func52, Tryz.ntmps52
  go_wp2_with fail
  refine (HS.out _).mono ?_
  rintro e w1 ⟨rfl, hb1⟩
  obtain ⟨hb2, hr, hlt⟩ := twice_setup hb1
  have HB0 := Lib.hid hb2
  have HR0 := Lib.hid hr
  clear hb1 hb2 hr hta
  go_wp2_with fail
  refine (bare_any kk _).mono ?_
  rintro e w2 ⟨rfl, hb2⟩
  have HR := Lib.hid ((hb2.block _ hlt).trans HR0.out)
  have HB1 := Lib.hid (HB0.out.trans (hb2.mono HB0.out.size))
  clear hb2 HB0 HR0
  go_wp2_with ((with_reducible show wpList _ _ _ _ _ _); refine wpList_store_row rfl 53 (.tmp 2) (.tmp 19) rfl w.heap.size (fC kk).toArray rfl rfl 53 _ HR.out (by kernel_rfl) rfl (fault_all _) ?_; go_frame)
  refine bodyPost_ret (results_cell_row rfl _ _ w.heap.size 53 (fC kk).toArray (0, 0) _ rfl (setRow_heap _ _ _ _ _ _ HR.out) Tryz.underlying53 rfl (by kernel_rfl)) rfl ⟨rfl, below_setRow HB1.out (Nat.le_refl _) _⟩
set_option maxRecDepth 100000 in
theorem samefault_any (a c : Int) (b : Bool) (hb : b = (a == c)) (w : World) : Calls Tryz.prog 51 #[.agg (fC a).toArray, .agg (fC c).toArray] w fun e w' => e = .returned (.bool b) ∧ Below w.heap.size w w' := by
  show Calls Tryz.prog 51 #[.agg #[.int .i64 a, .bool false, .int .i64 0, .bool false, .int .i64 0], .agg #[.int .i64 c, .bool false, .int .i64 0, .bool false, .int .i64 0]] w _
  cases b with
  | true =>
    have hq : (a == c) = true := hb.symm
    clear hb
    go_enter Tryz.func51, Tryz.ntmps51
    go_wp2
    go_ret
    exact ⟨rfl, ((Below.refl _ _).alloc (Nat.le_refl _) _).alloc (by simp) _⟩
  | false =>
    have hq : (a == c) = false := hb.symm
    clear hb
    go_enter Tryz.func51, Tryz.ntmps51
    go_wp2
    go_ret
    exact ⟨rfl, ((Below.refl _ _).alloc (Nat.le_refl _) _).alloc (by simp) _⟩
theorem fault_any (E : Nat → Addr) (c : Nat) (w : World) (hE : Errs w E) (hc : c ≤ 25) : Calls Tryz.prog 52 #[errV E c] w fun e w' => e = .returned (.agg (fC (numE c)).toArray) ∧ Below w.heap.size w w' := by
  cases c with
  | zero => exact fault_nil w
  | succ q => exact fault_err E q w hE (by omega)
set_option maxRecDepth 100000 in
theorem same_err (E : Nat → Addr) (c : Nat) (k : Int) (b : Bool) (hb : b = (numE c == k)) (w : World) (hE : Errs w E) (hc : c ≤ 25) :
    Calls Tryz.prog 21 #[errV E c, .agg (fC k).toArray] w fun e w' => e = .returned (.bool b) ∧ Below w.heap.size w w' := by
  obtain ⟨x, hx⟩ : ∃ x, x = errV E c := ⟨_, rfl⟩
  obtain ⟨n, hn⟩ : ∃ n, n = numE c := ⟨_, rfl⟩
  have HF : Hid (∀ W, Below w.heap.size w W → Calls Tryz.prog 52 #[x] W fun e w' => e = .returned (.agg (fC n).toArray) ∧ Below W.heap.size W w') := fun W hW => by rw [hx, hn]; exact fault_any E c W (hE.below hW) hc
  have HBB : Hid (b = (n == k)) := by show _ = _; rw [hn]; exact hb
  rw [← hx]
  clear hx hn hb hE hc
  go_enter Tryz.func21, Tryz.ntmps21
  go_wp2_with fail
  have e1 := heap_alloc_new w (.cells (fC k).toArray 53)
  have b1 : Below w.heap.size w (w.alloc (.cells (fC k).toArray 53)) := (Below.refl _ _).alloc (Nat.le_refl _) _
  generalize hw1 : World.alloc _ _ = w1
  have e0 : w.alloc (.cells (fC k).toArray 53) = w1 := hw1
  rw [e0] at e1 b1
  have E1 := Lib.hid e1
  have B1 := Lib.hid b1
  clear e0 hw1 e1 b1
  refine wp_region_below (by kernel_rfl) (by kernel_rfl) w1 (Below.refl _ _) ?_
  go_big_quiet_step ((intro _; rfl))
  go_big_quiet_step ((intro hw'; exact cls hw' (HF.out _ (B1.out.trans (hw'.mono B1.out.size)))))
  go_big_quiet_want
  refine quiet_load_row 53 (.tmp 3) rfl w.heap.size rfl 53 (fC k).toArray (0, 0) _ (fun w' hw' => row_below E1.out hw') Tryz.underlying53 rfl (by kernel_rfl) ?_
  go_frame
  go_big_quiet_on
  go_big_quiet_step ((intro hw'; exact cls hw' (samefault_any n k b HBB.out _)))
  go_big_quiet_step ((intro _; rfl))
  refine wpQuiet_nil ?_
  intro w2 hw2
  have B2 := Lib.hid (B1.out.trans (hw2.mono B1.out.size))
  clear hw2
  go_wp2_with fail
  go_ret
  exact ⟨rfl, B2.out⟩
set_option maxRecDepth 100000 in
/-- Is the error the one of this number? -/
theorem is_any (E : Nat → Addr) (c : Nat) (k : Int) (b : Bool) (hb : b = (numE c == k)) (w : World) (hE : Errs w E) (hc : c ≤ 25) :
    Calls Tryz.prog 25 #[errV E c, .int .i64 k] w fun e w' => e = .returned (.bool b) ∧ Below w.heap.size w w' := by
  obtain ⟨x, hx⟩ : ∃ x, x = errV E c := ⟨_, rfl⟩
  have HF : Hid (∀ W, Below w.heap.size w W → Calls Tryz.prog 21 #[x, .agg (fC k).toArray] W fun e w' => e = .returned (.bool b) ∧ Below W.heap.size W w') := fun W hW => by rw [hx]; exact same_err E c k b hb W (hE.below hW) hc
  rw [← hx]
  clear hx hb hE hc
  go_enter Tryz.func25, Tryz.ntmps25
  go_wp2_with fail
  refine (bare_any k _).mono ?_
  rintro e w1 ⟨rfl, hb1⟩
  have B1 := Lib.hid hb1
  clear hb1
  go_wp2_with fail
  refine (HF.out _ B1.out).mono ?_
  rintro e w2 ⟨rfl, hb2⟩
  have B2 := Lib.hid (B1.out.trans (hb2.mono B1.out.size))
  clear hb2
  go_wp2_with fail
  go_ret
  exact ⟨rfl, B2.out⟩
end Go.Proofs.YtdamhoagiooicaaGreatDoor.Sha

/-
  A Reader in a walk: how it stands behind each step, whatever else makes memory. Conditions: those that each states.
-/
namespace Go.Proofs.YtdamhoagiooicaaGreatDoor.Sha
open Go Go.RowKit
/-- A Reader made since W; nothing that was there in W has turned. -/
def RS (E : Nat → Addr) (m : Nat) (W w : World) (r : Nat) (bs : List UInt8) (c : Nat) : Prop := RdI E m w r bs c ∧ Below W.heap.size W w ∧ W.heap.size ≤ r
variable {E : Nat → Addr} {m r c d : Nat} {W w w' : World} {bs b : List UInt8}
theorem RS.step (h : RS E m W w r bs c) (hi : RdI E m w' r b d) (hg : w.grownBy w' (some r)) : RS E m W w' r b d :=
  ⟨hi, h.2.1.grown hg h.2.1.size (fun k hk => by cases hk; exact h.2.2), h.2.2⟩
theorem RS.keep (h : RS E m W w r bs c) (hb : Below w.heap.size w w') : RS E m W w' r bs c := ⟨h.1.below hb, h.2.1.trans (hb.mono h.2.1.size), h.2.2⟩
theorem RS.other {q : Nat} (h : RS E m W w r bs c) (hg : w.grownBy w' (some q)) (hq : q ≠ r) (hm : bs ≠ [] → m ≠ q) (hW : W.heap.size ≤ q) : RS E m W w' r bs c :=
  ⟨h.1.grown hg hq hm, h.2.1.grown hg h.2.1.size (fun k hk => by cases hk; exact hW), h.2.2⟩
theorem RS.lt (h : RS E m W w r bs c) : r < w.heap.size := h.1.lt
theorem RS.er (h : RS E m W w r bs c) (hE : Er W E) : ErR w E r := ⟨hE.below h.2.1, hE.lt h.2.2⟩
theorem NewRd.rs (h : NewRd E m w w' r bs) (hb : Below W.heap.size W w) : RS E m W w' r bs 0 := ⟨h.1, hb.trans (h.2.1.mono hb.size), Nat.le_trans hb.size h.2.2.1⟩
/-- A literal of bytes. -/
theorem lit_src {w : World} (l : List UInt8) (T : TypeId) (h0 : 0 < l.length) : SrcB (w.alloc (.cells (l.map bV).toArray T)) (.slice (some ⟨w.heap.size, 0, none⟩) l.length l.length) l := src_row rfl h0 (heap_alloc_new _ _)
theorem mask_nat (n k : Nat) (hn : n < 18446744073709551616) (hk : 2 ^ k - 1 < 18446744073709551616) : bits .and .u64 (n : Int) ((2 ^ k - 1 : Nat) : Int) = ((n % 2 ^ k : Nat) : Int) := by
  rw [u64_and_nat _ _ hn hk, Nat.and_two_pow_sub_one_eq_mod]
/-- A row that is not the Reader's. -/
theorem row_grown {w w' : World} {g r : Nat} {o : Obj} (h : w.heap[g]? = some o) (hg : w.grownBy w' (some r)) (hne : r < g) : w'.heap[g]? = some o := by
  rw [hg.block g (Array.getElem?_eq_some_iff.1 h).1 (fun e => by have := Option.some.inj e; omega)]
  exact h
theorem takeL_err (k : Nat) (bs : List UInt8) (c : Nat) (h : c ≠ 0) : takeL k bs c = ([], bs, c) := by unfold takeL; rw [if_pos h]
theorem takeL_end (k : Nat) (bs : List UInt8) (h : bs.length < k) : takeL k bs 0 = ([], bs, 1) := by unfold takeL; rw [if_neg (by omega), if_pos h]
theorem takeL_ok (k : Nat) (bs : List UInt8) (h : k ≤ bs.length) : takeL k bs 0 = (bs.take k, bs.drop k, 0) := by unfold takeL; rw [if_neg (by omega), if_neg (by omega)]
theorem takeL_app (xs ys : List UInt8) (k : Nat) (h : xs.length = k) : takeL k (xs ++ ys) 0 = (xs, ys, 0) := by
  subst h
  rw [takeL_ok _ _ (by simp)]
  simp
theorem numL_err (most : Nat) (bs : List UInt8) (c : Nat) (h : c ≠ 0) : numL most bs c = (0, bs, c) := by
  have e : widN (leN []) = 0 := rfl
  unfold numL
  simp only [takeL_err _ _ _ h, e, if_pos]
  rw [if_pos h]
theorem num_is (most : Nat) (n : Nat) (hE : ErR w E r) (hr : RdI E m w r bs c) (ht : numL most bs c = (n, b, d)) :
    Calls Tryz.prog 75 #[.pointer (some ⟨r, 0, none⟩), .int .u64 most] w (NumPost E m n b d r w) := by
  have h := num_any E m most bs c r w hE hr
  rw [ht] at h
  exact h
theorem left_none (hr : RdI E m w r [] c) : Calls Tryz.prog 36 #[.pointer (some ⟨r, 0, none⟩)] w fun e w' => e = .returned (.int .i64 0) ∧ w = w' :=
  left_any E m [] c r w hr
/-- Behind an error each call answers nothing. -/
theorem num_none (most : Nat) (hc : c ≠ 0) (hE : ErR w E r) (hr : RdI E m w r bs c) :
    Calls Tryz.prog 75 #[.pointer (some ⟨r, 0, none⟩), .int .u64 most] w fun e w' => e = .returned (.int .u64 0) ∧ RdI E m w' r bs c ∧ w.grownBy w' (some r) :=
  num_is most 0 hE hr (numL_err most bs c hc)
theorem four_none (hc : c ≠ 0) (hE : ErR w E r) (hr : RdI E m w r bs c) :
    Calls Tryz.prog 106 #[.pointer (some ⟨r, 0, none⟩)] w fun e w' => e = .returned (.int .u32 0) ∧ RdI E m w' r bs c ∧ w.grownBy w' (some r) :=
  four_is E m bs [] bs c c r w hE hr (takeL_err 4 bs c hc)
theorem eight_none (hc : c ≠ 0) (hE : ErR w E r) (hr : RdI E m w r bs c) :
    Calls Tryz.prog 134 #[.pointer (some ⟨r, 0, none⟩)] w fun e w' => e = .returned (.int .u64 0) ∧ RdI E m w' r bs c ∧ w.grownBy w' (some r) :=
  eight_is E m bs [] bs c c r w hE hr (takeL_err 8 bs c hc)
end Go.Proofs.YtdamhoagiooicaaGreatDoor.Sha

/-
  Plain mathematics of a Reader's Num: what it answers of bytes that Put wrote, that are cut off, that are too many. No conditions beyond those that each states.
-/
namespace Go.Proofs.YtdamhoagiooicaaGreatDoor.Sha
open Go Go.RowKit
theorem leN_one (x : UInt8) : leN [x] = x.toNat := by simp [leN]
theorem takeL_one (x : UInt8) (ys : List UInt8) : takeL 1 (x :: ys) 0 = ([x], ys, 0) := takeL_app [x] ys 1 rfl
/-- A mark, and the bytes that it asks for. -/
theorem numL_mark (most : Nat) (f : UInt8) (k : Nat) (xs tail : List UInt8) (hk : widN f.toNat = k) (h0 : 0 < k) (hl : xs.length = k) :
    numL most (f :: (xs ++ tail)) 0 = if lenN (leN xs) ≠ 1 + k then (0, tail, 2) else if most < leN xs then (0, tail, 4) else (leN xs, tail, 0) := by
  have hk0 : ¬ k = 0 := by omega
  unfold numL
  simp only [takeL_one, leN_one, hk, if_neg hk0, takeL_app xs tail k hl]
  rw [if_neg (show ¬ (0 : Nat) ≠ 0 by omega)]
/-- A mark, and too few bytes behind it. -/
theorem numL_short (most : Nat) (f : UInt8) (k : Nat) (xs : List UInt8) (hk : widN f.toNat = k) (hl : xs.length < k) : numL most (f :: xs) 0 = (0, xs, 1) := by
  have hk0 : ¬ k = 0 := by omega
  unfold numL
  simp only [takeL_one, leN_one, hk, if_neg hk0, takeL_end k xs hl]
  rw [if_pos (show (1 : Nat) ≠ 0 by omega)]
theorem numL_nil (most : Nat) : numL most [] 0 = (0, [], 1) := by
  unfold numL
  have e : takeL 1 [] 0 = ([], [], 1) := takeL_end 1 [] (by simp)
  have e2 : widN (leN []) = 0 := rfl
  simp only [e, e2, if_pos]
  rw [if_pos (by omega)]
/-- A first byte that is the number. -/
theorem numL_small (most : Nat) (f : UInt8) (tail : List UInt8) (hf : f.toNat < 253) : numL most (f :: tail) 0 = if most < f.toNat then (0, tail, 4) else (f.toNat, tail, 0) := by
  have hk : widN f.toNat = 0 := by unfold widN; rw [if_neg (by omega), if_neg (by omega), if_neg (by omega)]
  have hl : lenN f.toNat = 1 := by unfold lenN; rw [if_pos hf]
  unfold numL
  simp only [takeL_one, leN_one, hk, if_pos]
  rw [if_neg (show ¬ (0 : Nat) ≠ 0 by omega), hl, if_neg (show ¬ (1 : Nat) ≠ 1 + 0 by omega)]
/-- What Put wrote is read again. -/
theorem numL_put (most n : Nat) (tail : List UInt8) (hn : n ≤ 18446744073709551615) : numL most (putL n ++ tail) 0 = if most < n then (0, tail, 4) else (n, tail, 0) := by
  unfold putL
  by_cases h1 : n < 253
  · rw [if_pos h1]
    have e : (UInt8.ofNat n).toNat = n := by rw [UInt8.toNat_ofNat']; omega
    have h := numL_small most (UInt8.ofNat n) tail (by omega)
    rw [e] at h
    exact h
  rw [if_neg h1]
  by_cases h2 : n ≤ 65535
  · rw [if_pos h2]
    have e : leN (leB n 2) = n := leN_leB_of (by omega)
    have hl : lenN n = 3 := by unfold lenN; rw [if_neg h1, if_pos h2]
    have h := numL_mark most 253 2 (leB n 2) tail rfl (by omega) (leB_length n 2)
    rw [e, hl, if_neg (by omega)] at h
    exact h
  rw [if_neg h2]
  by_cases h3 : n ≤ 4294967295
  · rw [if_pos h3]
    have e : leN (leB n 4) = n := leN_leB_of (by omega)
    have hl : lenN n = 5 := by unfold lenN; rw [if_neg h1, if_neg h2, if_pos h3]
    have h := numL_mark most 254 4 (leB n 4) tail rfl (by omega) (leB_length n 4)
    rw [e, hl, if_neg (by omega)] at h
    exact h
  · rw [if_neg h3]
    have e : leN (leB n 8) = n := leN_leB_of (by omega)
    have hl : lenN n = 9 := by unfold lenN; rw [if_neg h1, if_neg h2, if_neg h3]
    have h := numL_mark most 255 8 (leB n 8) tail rfl (by omega) (leB_length n 8)
    rw [e, hl, if_neg (by omega)] at h
    exact h
/-- What Put wrote, cut off: it ends too early. -/
theorem numL_cut (most n k : Nat) (hk : k < lenN n) : ∃ b, numL most ((putL n).take k) 0 = (0, b, 1) := by
  cases k with
  | zero => exact ⟨[], by rw [List.take_zero]; exact numL_nil most⟩
  | succ k =>
    rcases lenN_eq n with ⟨e, _⟩ | ⟨e, p⟩ | ⟨e, p⟩ | ⟨e, p⟩
    · omega
    · rw [p, List.take_succ_cons]
      exact ⟨_, numL_short most 253 2 _ rfl (by rw [List.length_take, leB_length]; omega)⟩
    · rw [p, List.take_succ_cons]
      exact ⟨_, numL_short most 254 4 _ rfl (by rw [List.length_take, leB_length]; omega)⟩
    · rw [p, List.take_succ_cons]
      exact ⟨_, numL_short most 255 8 _ rfl (by rw [List.length_take, leB_length]; omega)⟩
/-- What was written is read again, whatever stands behind. -/
theorem num_put {E : Nat → Addr} {m r : Nat} {w : World} {b : List UInt8} (x : Nat) (hx : x ≤ 18446744073709551615) (hE : ErR w E r) (hr : RdI E m w r (putL x ++ b) 0) :
    Calls Tryz.prog 75 #[.pointer (some ⟨r, 0, none⟩), .int .u64 18446744073709551615] w fun e w' => e = .returned (.int .u64 x) ∧ RdI E m w' r b 0 ∧ w.grownBy w' (some r) :=
  num_is 18446744073709551615 x hE hr (by rw [numL_put _ x b hx, if_neg (by omega)])
theorem four_put {E : Nat → Addr} {m r : Nat} {w : World} {b : List UInt8} (y : Nat) (hy : y ≤ 4294967295) (hE : ErR w E r) (hr : RdI E m w r (leB y 4 ++ b) 0) :
    Calls Tryz.prog 106 #[.pointer (some ⟨r, 0, none⟩)] w fun e w' => e = .returned (.int .u32 y) ∧ RdI E m w' r b 0 ∧ w.grownBy w' (some r) := by
  have h := four_is E m (leB y 4 ++ b) (leB y 4) b 0 0 r w hE hr (takeL_app _ _ _ (leB_length y 4))
  rw [leN_leB_of (show y < 256 ^ 4 by omega)] at h
  exact h
theorem eight_put {E : Nat → Addr} {m r : Nat} {w : World} {b : List UInt8} (x : Nat) (hx : x ≤ 18446744073709551615) (hE : ErR w E r) (hr : RdI E m w r (leB x 8 ++ b) 0) :
    Calls Tryz.prog 134 #[.pointer (some ⟨r, 0, none⟩)] w fun e w' => e = .returned (.int .u64 x) ∧ RdI E m w' r b 0 ∧ w.grownBy w' (some r) := by
  have h := eight_is E m (leB x 8 ++ b) (leB x 8) b 0 0 r w hE hr (takeL_app _ _ _ (leB_length x 8))
  rw [leN_leB_of (show x < 256 ^ 8 by omega)] at h
  exact h
theorem err_fine {E : Nat → Addr} {m : Nat} {bs : List UInt8} {r : Nat} {w : World} (h : RdI E m w r bs 0) :
    Calls Tryz.prog 35 #[.pointer (some ⟨r, 0, none⟩)] w fun e w' => e = .returned .nilIface ∧ w = w' := err_any E m bs 0 r w h
end Go.Proofs.YtdamhoagiooicaaGreatDoor.Sha

/-
  Plain mathematics of readers of bytes, one behind the other: what was written is read again; cut off it ends too early; what is read has just these bytes. No conditions beyond those that each states.
-/
namespace Go.Proofs.YtdamhoagiooicaaGreatDoor.Sha
open Go Go.RowKit
/-- A reader of bytes: what it answers, what it leaves, what it met. -/
abbrev Par (α : Type) := List UInt8 → Nat → α × List UInt8 × Nat
def thenP {α β : Type} (p : Par α) (q : α → Par β) : Par β := fun bs c => q (p bs c).1 (p bs c).2.1 (p bs c).2.2
def mapP {α β : Type} (f : α → β) (p : Par α) : Par β := fun bs c => (f (p bs c).1, (p bs c).2)
def manyP {α : Type} (p : Par α) : Nat → Par (List α)
  | 0, bs, c => ([], bs, c)
  | n + 1, bs, c => if c ≠ 0 then ([], bs, c) else thenP p (fun a => mapP (a :: ·) (manyP p n)) bs c
/-- Bytes that it reads whole, whatever stands behind; cut off, they end too early. -/
def Good {α : Type} (p : Par α) (a : α) (x : List UInt8) : Prop := (∀ y, p (x ++ y) 0 = (a, y, 0)) ∧ ∀ k, k < x.length → (p (x.take k) 0).2.2 = 1
/-- An error stays. -/
def Stay {α : Type} (p : Par α) : Prop := ∀ bs c, c ≠ 0 → (p bs c).2.2 = c
/-- What is read stands so to the bytes that it was read from. -/
def BackR {α : Type} (p : Par α) (R : α → List UInt8 → Prop) : Prop := ∀ bs a r, p bs 0 = (a, r, 0) → ∃ x, bs = x ++ r ∧ R a x
section
variable {α β : Type} {p : Par α} {q : α → Par β} {a : α} {b : β} {x y : List UInt8}
theorem Good.andThen (h1 : Good p a x) (h2 : Good (q a) b y) (hs : ∀ a, Stay (q a)) : Good (thenP p q) b (x ++ y) := by
  refine ⟨fun z => ?_, fun k hk => ?_⟩
  · unfold thenP
    rw [List.append_assoc, h1.1]
    exact h2.1 z
  · by_cases h : k < x.length
    · rw [List.take_append_of_le_length (by omega)]
      unfold thenP
      rw [h1.2 k h]
      exact hs _ _ 1 (by omega)
    · rw [List.take_append, List.take_of_length_le (by omega)]
      unfold thenP
      rw [h1.1]
      exact h2.2 (k - x.length) (by rw [List.length_append] at hk; omega)
theorem Good.map (f : α → β) (h : Good p a x) : Good (mapP f p) (f a) x :=
  ⟨fun z => by unfold mapP; rw [h.1], fun k hk => h.2 k hk⟩
theorem Stay.andThen (h1 : Stay p) (h2 : ∀ a, Stay (q a)) : Stay (thenP p q) := fun bs c hc => by
  unfold thenP
  have e := h1 bs c hc
  rw [h2 _ _ _ (by rw [e]; exact hc), e]
theorem Stay.map (f : α → β) (h : Stay p) : Stay (mapP f p) := fun bs c hc => h bs c hc
theorem BackR.andThen {R : α → List UInt8 → Prop} {S : α → β → List UInt8 → Prop} (h1 : BackR p R) (h2 : ∀ a, BackR (q a) (S a)) (hs : ∀ a, Stay (q a)) : BackR (thenP p q) (fun b z => ∃ a x y, z = x ++ y ∧ R a x ∧ S a b y) := by
  intro bs b r h
  unfold thenP at h
  have hc : (p bs 0).2.2 = 0 := by
    by_cases h0 : (p bs 0).2.2 = 0
    · exact h0
    · have e := hs (p bs 0).1 (p bs 0).2.1 (p bs 0).2.2 h0
      rw [h] at e
      exact e.symm
  rw [hc] at h
  obtain ⟨x, e1, r1⟩ := h1 bs (p bs 0).1 (p bs 0).2.1 (Prod.ext rfl (Prod.ext rfl hc))
  obtain ⟨y, e2, r2⟩ := h2 _ _ _ _ h
  exact ⟨x ++ y, by rw [List.append_assoc, ← e2]; exact e1, _, x, y, rfl, r1, r2⟩
theorem BackR.map {R : α → List UInt8 → Prop} (f : α → β) (h : BackR p R) : BackR (mapP f p) (fun b z => ∃ a, b = f a ∧ R a z) := by
  intro bs b r h1
  unfold mapP at h1
  simp only [Prod.mk.injEq] at h1
  obtain ⟨x, e, hr⟩ := h bs (p bs 0).1 r (by rw [← h1.2])
  exact ⟨x, e, _, h1.1.symm, hr⟩
theorem BackR.weak {R S : α → List UInt8 → Prop} (h : BackR p R) (hw : ∀ a x, R a x → S a x) : BackR p S := fun bs a r h1 => by
  obtain ⟨x, e, hr⟩ := h bs a r h1
  exact ⟨x, e, hw _ _ hr⟩
theorem stay_many : ∀ n, Stay (manyP p n)
  | 0, bs, c, hc => rfl
  | n + 1, bs, c, hc => by unfold manyP; rw [if_pos hc]
theorem good_many (enc : α → List UInt8) : ∀ (l : List α), (∀ z ∈ l, Good p z (enc z)) → Good (manyP p l.length) l (l.flatMap enc)
  | [], _ => ⟨fun y => rfl, fun k hk => absurd hk (by simp)⟩
  | z :: l, h => by
    have ih := good_many enc l (fun u hu => h u (List.mem_cons_of_mem _ hu))
    have g := (h z List.mem_cons_self).andThen (q := fun a => mapP (a :: ·) (manyP p l.length)) (ih.map (z :: ·)) (fun a => (stay_many _).map _)
    rw [List.flatMap_cons]
    refine ⟨fun y => ?_, fun k hk => ?_⟩
    · show manyP p (l.length + 1) _ 0 = _
      unfold manyP
      rw [if_neg (by omega)]
      exact g.1 y
    · show (manyP p (l.length + 1) _ 0).2.2 = 1
      unfold manyP
      rw [if_neg (by omega)]
      exact g.2 k hk
theorem back_many (enc : α → List UInt8) (V : α → Prop) (h : BackR p (fun a x => x = enc a ∧ V a)) : ∀ n, BackR (manyP p n) (fun l x => x = l.flatMap enc ∧ (∀ z ∈ l, V z) ∧ l.length = n)
  | 0, bs, l, r, e => by
    unfold manyP at e
    simp only [Prod.mk.injEq, and_true] at e
    refine ⟨[], by rw [e.2]; rfl, ?_⟩
    rw [← e.1]
    exact ⟨rfl, fun z hz => absurd hz (by simp), rfl⟩
  | n + 1, bs, l, r, e => by
    unfold manyP at e
    rw [if_neg (by omega)] at e
    obtain ⟨x, e1, a, y, z, e2, ⟨e3, v⟩, l2, e4, e5, v2, e6⟩ := (h.andThen (q := fun a => mapP (a :: ·) (manyP p n)) (fun a => (back_many enc V h n).map (a :: ·)) (fun a => (stay_many n).map _)) _ _ _ e
    refine ⟨x, e1, ?_⟩
    rw [e4, e2, e3, e5]
    exact ⟨by rw [List.flatMap_cons], fun u hu => (List.mem_cons.1 hu).elim (fun e => e ▸ v) (v2 u), by rw [List.length_cons, e6]⟩
end
theorem stay_take (k : Nat) : Stay (takeL k) := fun bs c hc => by rw [takeL_err k bs c hc]
theorem stay_num (most : Nat) : Stay (numL most) := fun bs c hc => by rw [numL_err most bs c hc]
theorem good_take (x : List UInt8) (k : Nat) (h : x.length = k) : Good (takeL k) x x :=
  ⟨fun y => takeL_app x y k h, fun j hj => by rw [takeL_end k _ (by rw [List.length_take]; omega)]⟩
theorem back_take (k : Nat) : BackR (takeL k) (fun a x => x = a ∧ a.length = k) := fun bs a r h => by
  unfold takeL at h
  rw [if_neg (by omega)] at h
  split at h
  · simp at h
  · simp only [Prod.mk.injEq, and_true] at h
    exact ⟨a, by rw [← h.1, ← h.2, List.take_append_drop], rfl, by rw [← h.1, List.length_take]; omega⟩
/-- So many bytes as a number. -/
def leP (k : Nat) : Par Nat := mapP leN (takeL k)
theorem stay_le (k : Nat) : Stay (leP k) := (stay_take k).map _
theorem leN_inj : ∀ (l m : List UInt8), l.length = m.length → leN l = leN m → l = m
  | [], [], _, _ => rfl
  | x :: l, y :: m, hl, h => by
    have h1 : x.toNat + 256 * leN l = y.toNat + 256 * leN m := h
    have hx := x.toNat_lt
    have hy := y.toNat_lt
    have e1 : x.toNat = y.toNat := by omega
    have e2 : leN l = leN m := by omega
    rw [leN_inj l m (by simpa using hl) e2, UInt8.toNat_inj.1 e1]
theorem leB_leN (l : List UInt8) : leB (leN l) l.length = l :=
  leN_inj _ _ (leB_length _ _) (leN_leB_of (leN_lt l))
theorem good_le (n k : Nat) (h : n < 256 ^ k) : Good (leP k) n (leB n k) := by
  have g := (good_take (leB n k) k (leB_length n k)).map leN
  rw [leN_leB_of h] at g
  exact g
theorem back_le (k : Nat) : BackR (leP k) (fun n x => x = leB n k ∧ n < 256 ^ k) := ((back_take k).map leN).weak fun n x ⟨a, e, e1, e2⟩ => by
  subst e e1 e2
  exact ⟨(leB_leN _).symm, leN_lt _⟩
theorem good_num (most n : Nat) (h : n ≤ most) (hm : most ≤ 18446744073709551615) : Good (numL most) n (putL n) :=
  ⟨fun y => by rw [numL_put most n y (by omega), if_neg (by omega)], fun k hk => by
    rw [putL_length] at hk
    obtain ⟨b, e⟩ := numL_cut most n k hk
    rw [e]⟩
theorem widN_cases (n : Nat) : (widN n = 2 ∧ n = 253) ∨ (widN n = 4 ∧ n = 254) ∨ (widN n = 8 ∧ n = 255) ∨ (widN n = 0 ∧ n ≠ 253 ∧ n ≠ 254 ∧ n ≠ 255) := by
  unfold widN
  split
  · exact .inl ⟨rfl, by assumption⟩
  · split
    · exact .inr (.inl ⟨rfl, by assumption⟩)
    · split
      · exact .inr (.inr (.inl ⟨rfl, by assumption⟩))
      · exact .inr (.inr (.inr ⟨rfl, by assumption, by assumption, by assumption⟩))
theorem back_num (most : Nat) : BackR (numL most) (fun n x => x = putL n ∧ n ≤ most) := fun bs n r h => by
  cases bs with
  | nil => rw [numL_nil] at h; simp at h
  | cons f xs =>
    have hf := f.toNat_lt
    have ef : UInt8.ofNat f.toNat = f := by simp
    have mark : ∀ k, 0 < k → widN f.toNat = k → (∀ z : List UInt8, z.length = k → lenN (leN z) = 1 + k → putL (leN z) = f :: leB (leN z) k) → ∃ x, f :: xs = x ++ r ∧ x = putL n ∧ n ≤ most := by
      intro k h0 hk hp
      by_cases hl : xs.length < k
      · rw [numL_short most f k xs hk hl] at h; simp at h
      · obtain ⟨z, y, e, hz⟩ : ∃ z y, xs = z ++ y ∧ z.length = k := ⟨xs.take k, xs.drop k, (List.take_append_drop k xs).symm, by rw [List.length_take]; omega⟩
        rw [e, numL_mark most f k z y hk h0 hz] at h
        split at h
        · simp at h
        · rename_i h1
          split at h
          · simp at h
          · rename_i h2
            simp only [Prod.mk.injEq, and_true] at h
            have h3 := hp z hz (by omega)
            rw [← hz, leB_leN] at h3
            refine ⟨f :: z, by rw [e, ← h.2]; rfl, ?_, by rw [← h.1]; omega⟩
            rw [← h.1, h3]
    have put : ∀ (z : List UInt8) (k : Nat) (g : UInt8), lenN (leN z) = 1 + k → 0 < k → (k = 2 → g = 253) → (k = 4 → g = 254) → (k = 8 → g = 255) → putL (leN z) = g :: leB (leN z) k := by
      intro z k g hl h0 g1 g2 g3
      rcases lenN_eq (leN z) with ⟨a, b⟩ | ⟨a, b⟩ | ⟨a, b⟩ | ⟨a, b⟩
      · omega
      · rw [b, g1 (by omega), show k = 2 by omega]
      · rw [b, g2 (by omega), show k = 4 by omega]
      · rw [b, g3 (by omega), show k = 8 by omega]
    have fz : ∀ m : Nat, f.toNat = m → f = UInt8.ofNat m := fun m e => by rw [← e, ef]
    rcases widN_cases f.toNat with ⟨e, e2⟩ | ⟨e, e2⟩ | ⟨e, e2⟩ | ⟨e, e2, e3, e4⟩
    · exact mark 2 (by omega) e (fun z _ hl => put z 2 f hl (by omega) (fun _ => fz 253 e2) (fun h => by omega) (fun h => by omega))
    · exact mark 4 (by omega) e (fun z _ hl => put z 4 f hl (by omega) (fun h => by omega) (fun _ => fz 254 e2) (fun h => by omega))
    · exact mark 8 (by omega) e (fun z _ hl => put z 8 f hl (by omega) (fun h => by omega) (fun h => by omega) (fun _ => fz 255 e2))
    · rw [numL_small most f xs (by omega)] at h
      split at h
      · simp at h
      · simp only [Prod.mk.injEq, and_true] at h
        refine ⟨[f], by rw [← h.2]; rfl, ?_, by rw [← h.1]; omega⟩
        rw [← h.1]
        unfold putL
        rw [if_pos (by omega), ef]
end Go.Proofs.YtdamhoagiooicaaGreatDoor.Sha
