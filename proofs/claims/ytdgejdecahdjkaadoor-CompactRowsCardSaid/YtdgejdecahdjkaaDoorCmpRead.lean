/-
  A Reader's Num, Four, Eight, Bytes and Hash answer what the chapter says, and leave what it says. Conditions: the Reader stands as it should; the three errors are there.
-/
import Derived.Test.YtdgejdecahdjkaaDoorCmpPut
import Derived.Test.YtdgejdecahdjkaaDoorCmpTake
namespace Go.Proofs.YtdgejdecahdjkaaDoor.Sha
open Go Go.RowKit

/-- The three errors, none of them at block r. -/
def ErR (w : World) (E : Nat → Addr) (r : Nat) : Prop := Er w E ∧ 2 ≠ r ∧ 0 ≠ r ∧ 1 ≠ r
theorem ErR.grown {w w' : World} {E : Nat → Addr} {r : Nat} (h : ErR w E r) (hg : w.grownBy w' (some r)) : ErR w' E r := by
  obtain ⟨⟨a, b, c⟩, p, q, s⟩ := h
  exact ⟨⟨hg.cell a (fun e => p (Option.some.inj e)), hg.cell b (fun e => q (Option.some.inj e)), hg.cell c (fun e => s (Option.some.inj e))⟩, p, q, s⟩
theorem ErR.below {w w' : World} {E : Nat → Addr} {r : Nat} (h : ErR w E r) (hb : Below w.heap.size w w') : ErR w' E r := ⟨h.1.below hb, h.2⟩
theorem takeL_le (k : Nat) (bs : List UInt8) (c : Nat) : (takeL k bs c).1.length ≤ k := by
  unfold takeL
  split
  · simp
  · split
    · simp
    · simp [List.length_take]; omega
def TookPost (E : Nat → Addr) (m : Nat) (x b : List UInt8) (d r : Nat) (w : World) (e : Ending) (w' : World) : Prop :=
  ∃ v, e = .returned v ∧ SrcB w' v x ∧ AtB v m ∧ RdI E m w' r b d ∧ w.grownBy w' (some r)
theorem take_is (E : Nat → Addr) (m : Nat) (k : Nat) (kk : Int) (hkk : kk = (k : Int)) (bs x b : List UInt8) (c d r : Nat) (w : World) (hE : ErR w E r) (h : RdI E m w r bs c) (hk : k ≤ 9223372036854775807) (ht : takeL k bs c = (x, b, d)) :
    Calls Tryd.prog 28 #[.pointer (some ⟨r, 0, none⟩), .int .i64 kk] w (TookPost E m x b d r w) := by
  refine (take_any E m k kk hkk bs c r w hE.1 h hk).mono fun e w' ⟨v, he, h1, h2, h3, h4⟩ => ?_
  rw [ht] at h1 h3
  exact ⟨v, he, h1, h2, h3, h4⟩
/-- What Num answers, leaves and meets. -/
def numL (most : Nat) (bs : List UInt8) (c : Nat) : Nat × List UInt8 × Nat :=
  let t := takeL 1 bs c
  let k := widN (leN t.1)
  let u := if k = 0 then t else takeL k t.2.1 t.2.2
  if u.2.2 ≠ 0 then (0, u.2.1, u.2.2) else if lenN (leN u.1) ≠ 1 + k then (0, u.2.1, 2) else if most < leN u.1 then (0, u.2.1, 4) else (leN u.1, u.2.1, 0)
def NumPost (E : Nat → Addr) (m : Nat) (n : Nat) (b : List UInt8) (d r : Nat) (w : World) (e : Ending) (w' : World) : Prop :=
  e = .returned (.int .u64 n) ∧ RdI E m w' r b d ∧ w.grownBy w' (some r)
/-- What a Reader's two cells are. -/
theorem RdI.cells {E : Nat → Addr} {m : Nat} {w : World} {r c : Nat} {bs : List UInt8} (h : RdI E m w r bs c) : w.cell? ⟨r, 1, none⟩ = some (errV E c) ∧ w.frozen? ⟨r, 1, none⟩ = false := by
  obtain ⟨v, h1, _⟩ := h
  exact ⟨by rw [cell_of_row _ _ _ _ _ _ h1]; rfl, frozen_of_row _ _ _ _ _ h1⟩
theorem RdI.met {E : Nat → Addr} {m : Nat} {w : World} {r c : Nat} {bs : List UInt8} (d : Nat) (h : RdI E m w r bs c) : RdI E m (w.setCell ⟨r, 1, none⟩ (errV E d)) r bs d ∧ w.grownBy (w.setCell ⟨r, 1, none⟩ (errV E d)) (some r) := by
  obtain ⟨v, h1, h2, h3⟩ := h
  exact rd_err h1 h2 h3.1 h3.2
theorem widN_le (n : Nat) : widN n ≤ 8 := by unfold widN; split <;> (try split) <;> (try split) <;> omega
set_option maxHeartbeats 400000 in
set_option maxRecDepth 100000 in
theorem num_aerr (E : Nat → Addr) (m : Nat) (most : Nat) (bs x b : List UInt8) (c d r : Nat) (w : World) (hE : ErR w E r) (hr : RdI E m w r bs c) (ht : takeL 1 bs c = (x, b, d)) (hk : widN (leN x) = 0) (q : Nat) (hd : d = q + 1) :
    Calls Tryd.prog 12 #[.pointer (some ⟨r, 0, none⟩), .int .u64 most] w (NumPost E m 0 b (q + 1) r w) := by
  have HE := Lib.hid hE
  have HR := Lib.hid hr
  have HT := Lib.hid ht
  have HX : Hid (x.length ≤ 1) := by have := takeL_le 1 bs c; rw [ht] at this; exact this
  have HK : Hid (((widN (leN x) : Nat) : Int) = 0) := by show _ = _; simp [hk]
  have HD := Lib.hid hd
  clear hE hr ht hk hd
  go_enter Tryd.func12, Tryd.ntmps12
  go_wp2_with fail
  refine (take_is E m 1 1 rfl bs x b c d r _ HE.out HR.out (by omega) HT.out).mono ?_
  rintro e w1 ⟨v1, rfl, s1, -, i1, g1⟩
  have S1 := Lib.hid s1
  have I1 := Lib.hid i1
  have G1 := Lib.hid g1
  clear s1 i1 g1
  go_wp2_with fail
  refine (number_any x v1 _ S1.out (by have := HX.out; omega)).mono ?_
  rintro e w' ⟨rfl, rfl⟩
  go_wp2_with fail
  refine (width_any (leN x) 0 _ HK.out).mono ?_
  rintro e w' ⟨rfl, rfl⟩
  have hc1 := I1.out.cells.1
  rw [HD.out] at hc1
  change _ = some (Value.iface 74 (.pointer (some (E q)))) at hc1
  go_wp2_with fail
  go_ret
  exact ⟨rfl, by rw [← HD.out]; exact I1.out, G1.out⟩
set_option maxHeartbeats 400000 in
set_option maxRecDepth 100000 in
theorem num_ashape (E : Nat → Addr) (m : Nat) (most : Nat) (bs x b : List UInt8) (c d r : Nat) (w : World) (hE : ErR w E r) (hr : RdI E m w r bs c) (ht : takeL 1 bs c = (x, b, d)) (hk : widN (leN x) = 0) (hd : d = 0) (hl : lenN (leN x) ≠ 1) :
    Calls Tryd.prog 12 #[.pointer (some ⟨r, 0, none⟩), .int .u64 most] w (NumPost E m 0 b 2 r w) := by
  have HE := Lib.hid hE
  have HR := Lib.hid hr
  have HT := Lib.hid ht
  have HX : Hid (x.length ≤ 1) := by have := takeL_le 1 bs c; rw [ht] at this; exact this
  have HK : Hid (((widN (leN x) : Nat) : Int) = 0) := by show _ = _; simp [hk]
  have HD := Lib.hid hd
  clear hE hr ht hk hd
  obtain ⟨L, hL⟩ : ∃ L : Int, L = ((lenN (leN x) : Nat) : Int) := ⟨_, rfl⟩
  have hne : (L == 1) = false := by rw [beq_eq_false_iff_ne, hL]; intro e; exact hl (by omega)
  have hne' : (L != 1) = true := by simp [bne, hne]
  have HL : Hid (((lenN (leN x) : Nat) : Int) = L) := hL.symm
  clear hL hl
  go_enter Tryd.func12, Tryd.ntmps12
  go_wp2_with fail
  refine (take_is E m 1 1 rfl bs x b c d r _ HE.out HR.out (by omega) HT.out).mono ?_
  rintro e w1 ⟨v1, rfl, s1, -, i1, g1⟩
  have S1 := Lib.hid s1
  have I1 := Lib.hid i1
  have G1 := Lib.hid g1
  clear s1 i1 g1
  go_wp2_with fail
  refine (number_any x v1 _ S1.out (by have := HX.out; omega)).mono ?_
  rintro e w' ⟨rfl, rfl⟩
  go_wp2_with fail
  refine (width_any (leN x) 0 _ HK.out).mono ?_
  rintro e w' ⟨rfl, rfl⟩
  have hc1 := I1.out.cells.1
  have hf1 := I1.out.cells.2
  rw [HD.out] at hc1
  change _ = some Value.nilIface at hc1
  have he := (HE.out.grown G1.out).1.2.1
  change _ = some (Value.iface 74 (.pointer (some (E 1)))) at he
  go_wp2_with (go_at_call 9; refine (len_is (leN x) (L) _ HL.out).mono ?_; rintro e w' ⟨rfl, rfl⟩)
  go_ret
  obtain ⟨m1, m2⟩ := I1.out.met 2
  exact ⟨rfl, m1, grownBy_trans G1.out m2⟩
set_option maxHeartbeats 400000 in
set_option maxRecDepth 100000 in
theorem num_amany (E : Nat → Addr) (m : Nat) (most : Nat) (bs x b : List UInt8) (c d r : Nat) (w : World) (hE : ErR w E r) (hr : RdI E m w r bs c) (ht : takeL 1 bs c = (x, b, d)) (hk : widN (leN x) = 0) (hd : d = 0) (hl : lenN (leN x) = 1) (hm : most < leN x) :
    Calls Tryd.prog 12 #[.pointer (some ⟨r, 0, none⟩), .int .u64 most] w (NumPost E m 0 b 4 r w) := by
  have HE := Lib.hid hE
  have HR := Lib.hid hr
  have HT := Lib.hid ht
  have HX : Hid (x.length ≤ 1) := by have := takeL_le 1 bs c; rw [ht] at this; exact this
  have HK : Hid (((widN (leN x) : Nat) : Int) = 0) := by show _ = _; simp [hk]
  have HD := Lib.hid hd
  clear hE hr ht hk hd
  have HL : Hid (((lenN (leN x) : Nat) : Int) = 1) := by show _ = _; rw [hl]; first | rfl | simp
  clear hl
  have hmi : (most : Int) < ((leN x : Nat) : Int) := by omega
  go_enter Tryd.func12, Tryd.ntmps12
  go_wp2_with fail
  refine (take_is E m 1 1 rfl bs x b c d r _ HE.out HR.out (by omega) HT.out).mono ?_
  rintro e w1 ⟨v1, rfl, s1, -, i1, g1⟩
  have S1 := Lib.hid s1
  have I1 := Lib.hid i1
  have G1 := Lib.hid g1
  clear s1 i1 g1
  go_wp2_with fail
  refine (number_any x v1 _ S1.out (by have := HX.out; omega)).mono ?_
  rintro e w' ⟨rfl, rfl⟩
  go_wp2_with fail
  refine (width_any (leN x) 0 _ HK.out).mono ?_
  rintro e w' ⟨rfl, rfl⟩
  have hc1 := I1.out.cells.1
  have hf1 := I1.out.cells.2
  rw [HD.out] at hc1
  change _ = some Value.nilIface at hc1
  have he := (HE.out.grown G1.out).1.2.2
  change _ = some (Value.iface 74 (.pointer (some (E 3)))) at he
  go_wp2_with (go_at_call 9; refine (len_is (leN x) (1) _ HL.out).mono ?_; rintro e w' ⟨rfl, rfl⟩)
  go_ret
  obtain ⟨m1, m2⟩ := I1.out.met 4
  exact ⟨rfl, m1, grownBy_trans G1.out m2⟩
set_option maxHeartbeats 400000 in
set_option maxRecDepth 100000 in
theorem num_afine (E : Nat → Addr) (m : Nat) (most : Nat) (bs x b : List UInt8) (c d r : Nat) (w : World) (hE : ErR w E r) (hr : RdI E m w r bs c) (ht : takeL 1 bs c = (x, b, d)) (hk : widN (leN x) = 0) (hd : d = 0) (hl : lenN (leN x) = 1) (hm : ¬ most < leN x) :
    Calls Tryd.prog 12 #[.pointer (some ⟨r, 0, none⟩), .int .u64 most] w (NumPost E m (leN x) b 0 r w) := by
  have HE := Lib.hid hE
  have HR := Lib.hid hr
  have HT := Lib.hid ht
  have HX : Hid (x.length ≤ 1) := by have := takeL_le 1 bs c; rw [ht] at this; exact this
  have HK : Hid (((widN (leN x) : Nat) : Int) = 0) := by show _ = _; simp [hk]
  have HD := Lib.hid hd
  clear hE hr ht hk hd
  have HL : Hid (((lenN (leN x) : Nat) : Int) = 1) := by show _ = _; rw [hl]; first | rfl | simp
  clear hl
  have hmi : ¬ (most : Int) < ((leN x : Nat) : Int) := by omega
  go_enter Tryd.func12, Tryd.ntmps12
  go_wp2_with fail
  refine (take_is E m 1 1 rfl bs x b c d r _ HE.out HR.out (by omega) HT.out).mono ?_
  rintro e w1 ⟨v1, rfl, s1, -, i1, g1⟩
  have S1 := Lib.hid s1
  have I1 := Lib.hid i1
  have G1 := Lib.hid g1
  clear s1 i1 g1
  go_wp2_with fail
  refine (number_any x v1 _ S1.out (by have := HX.out; omega)).mono ?_
  rintro e w' ⟨rfl, rfl⟩
  go_wp2_with fail
  refine (width_any (leN x) 0 _ HK.out).mono ?_
  rintro e w' ⟨rfl, rfl⟩
  have hc1 := I1.out.cells.1
  have hf1 := I1.out.cells.2
  rw [HD.out] at hc1
  change _ = some Value.nilIface at hc1
  go_wp2_with (go_at_call 9; refine (len_is (leN x) (1) _ HL.out).mono ?_; rintro e w' ⟨rfl, rfl⟩)
  go_ret
  exact ⟨rfl, by rw [← HD.out]; exact I1.out, G1.out⟩
set_option maxHeartbeats 400000 in
set_option maxRecDepth 100000 in
theorem num_berr (E : Nat → Addr) (m : Nat) (most : Nat) (bs x b : List UInt8) (c d r : Nat) (w : World) (hE : ErR w E r) (hr : RdI E m w r bs c) (ht : takeL 1 bs c = (x, b, d)) (k : Nat) (hk : widN (leN x) = k) (hk0 : 0 < k) (x2 b2 : List UInt8) (d2 : Nat) (ht2 : takeL k b d = (x2, b2, d2)) (q : Nat) (hd : d2 = q + 1) :
    Calls Tryd.prog 12 #[.pointer (some ⟨r, 0, none⟩), .int .u64 most] w (NumPost E m 0 b2 (q + 1) r w) := by
  have HE := Lib.hid hE
  have HR := Lib.hid hr
  have HT := Lib.hid ht
  have HX : Hid (x.length ≤ 1) := by have := takeL_le 1 bs c; rw [ht] at this; exact this
  have HK : Hid (((widN (leN x) : Nat) : Int) = (k : Int)) := by show _ = _; simp [hk]
  have hk8 : k ≤ 8 := by rw [← hk]; exact widN_le _
  have HT2 := Lib.hid ht2
  have HX2 : Hid (x2.length ≤ k) := by have := takeL_le k b d; rw [ht2] at this; exact this
  have hki : (0 : Int) < (k : Int) := by omega
  clear ht2
  have HD := Lib.hid hd
  clear hE hr ht hk hd
  go_enter Tryd.func12, Tryd.ntmps12
  go_wp2_with fail
  refine (take_is E m 1 1 rfl bs x b c d r _ HE.out HR.out (by omega) HT.out).mono ?_
  rintro e w1 ⟨v1, rfl, s1, -, i1, g1⟩
  have S1 := Lib.hid s1
  have I1 := Lib.hid i1
  have G1 := Lib.hid g1
  clear s1 i1 g1
  go_wp2_with fail
  refine (number_any x v1 _ S1.out (by have := HX.out; omega)).mono ?_
  rintro e w' ⟨rfl, rfl⟩
  go_wp2_with fail
  refine (width_any (leN x) (k : Int) _ HK.out).mono ?_
  rintro e w' ⟨rfl, rfl⟩
  go_wp2_with fail
  refine (take_is E m k k rfl b x2 b2 d d2 r _ (HE.out.grown G1.out) I1.out (by omega) HT2.out).mono ?_
  rintro e w2 ⟨v2, rfl, s2, -, i2, g2⟩
  have S2 := Lib.hid s2
  have I2 := Lib.hid i2
  have G2 := Lib.hid (grownBy_trans G1.out g2)
  clear s2 i2 g2
  go_wp2_with fail
  refine (number_any x2 v2 _ S2.out (by have := HX2.out; omega)).mono ?_
  rintro e w' ⟨rfl, rfl⟩
  have hc1 := I2.out.cells.1
  rw [HD.out] at hc1
  change _ = some (Value.iface 74 (.pointer (some (E q)))) at hc1
  go_wp2_with fail
  go_ret
  exact ⟨rfl, by rw [← HD.out]; exact I2.out, G2.out⟩
set_option maxHeartbeats 400000 in
set_option maxRecDepth 100000 in
theorem num_bshape (E : Nat → Addr) (m : Nat) (most : Nat) (bs x b : List UInt8) (c d r : Nat) (w : World) (hE : ErR w E r) (hr : RdI E m w r bs c) (ht : takeL 1 bs c = (x, b, d)) (k : Nat) (hk : widN (leN x) = k) (hk0 : 0 < k) (x2 b2 : List UInt8) (d2 : Nat) (ht2 : takeL k b d = (x2, b2, d2)) (hd : d2 = 0) (hl : lenN (leN x2) ≠ 1 + k) :
    Calls Tryd.prog 12 #[.pointer (some ⟨r, 0, none⟩), .int .u64 most] w (NumPost E m 0 b2 2 r w) := by
  have HE := Lib.hid hE
  have HR := Lib.hid hr
  have HT := Lib.hid ht
  have HX : Hid (x.length ≤ 1) := by have := takeL_le 1 bs c; rw [ht] at this; exact this
  have HK : Hid (((widN (leN x) : Nat) : Int) = (k : Int)) := by show _ = _; simp [hk]
  have hk8 : k ≤ 8 := by rw [← hk]; exact widN_le _
  have HT2 := Lib.hid ht2
  have HX2 : Hid (x2.length ≤ k) := by have := takeL_le k b d; rw [ht2] at this; exact this
  have hki : (0 : Int) < (k : Int) := by omega
  clear ht2
  have HD := Lib.hid hd
  clear hE hr ht hk hd
  obtain ⟨L, hL⟩ : ∃ L : Int, L = ((lenN (leN x2) : Nat) : Int) := ⟨_, rfl⟩
  have hne : (L == 1 + (k : Int)) = false := by rw [beq_eq_false_iff_ne, hL]; intro e; exact hl (by omega)
  have hne' : (L != 1 + (k : Int)) = true := by simp [bne, hne]
  have HL : Hid (((lenN (leN x2) : Nat) : Int) = L) := hL.symm
  clear hL hl
  go_enter Tryd.func12, Tryd.ntmps12
  go_wp2_with fail
  refine (take_is E m 1 1 rfl bs x b c d r _ HE.out HR.out (by omega) HT.out).mono ?_
  rintro e w1 ⟨v1, rfl, s1, -, i1, g1⟩
  have S1 := Lib.hid s1
  have I1 := Lib.hid i1
  have G1 := Lib.hid g1
  clear s1 i1 g1
  go_wp2_with fail
  refine (number_any x v1 _ S1.out (by have := HX.out; omega)).mono ?_
  rintro e w' ⟨rfl, rfl⟩
  go_wp2_with fail
  refine (width_any (leN x) (k : Int) _ HK.out).mono ?_
  rintro e w' ⟨rfl, rfl⟩
  go_wp2_with fail
  refine (take_is E m k k rfl b x2 b2 d d2 r _ (HE.out.grown G1.out) I1.out (by omega) HT2.out).mono ?_
  rintro e w2 ⟨v2, rfl, s2, -, i2, g2⟩
  have S2 := Lib.hid s2
  have I2 := Lib.hid i2
  have G2 := Lib.hid (grownBy_trans G1.out g2)
  clear s2 i2 g2
  go_wp2_with fail
  refine (number_any x2 v2 _ S2.out (by have := HX2.out; omega)).mono ?_
  rintro e w' ⟨rfl, rfl⟩
  have hc1 := I2.out.cells.1
  have hf1 := I2.out.cells.2
  rw [HD.out] at hc1
  change _ = some Value.nilIface at hc1
  have he := (HE.out.grown G2.out).1.2.1
  change _ = some (Value.iface 74 (.pointer (some (E 1)))) at he
  go_wp2_with (go_at_call 9; refine (len_is (leN x2) (L) _ HL.out).mono ?_; rintro e w' ⟨rfl, rfl⟩)
  go_ret
  obtain ⟨m1, m2⟩ := I2.out.met 2
  exact ⟨rfl, m1, grownBy_trans G2.out m2⟩
set_option maxHeartbeats 400000 in
set_option maxRecDepth 100000 in
theorem num_bmany (E : Nat → Addr) (m : Nat) (most : Nat) (bs x b : List UInt8) (c d r : Nat) (w : World) (hE : ErR w E r) (hr : RdI E m w r bs c) (ht : takeL 1 bs c = (x, b, d)) (k : Nat) (hk : widN (leN x) = k) (hk0 : 0 < k) (x2 b2 : List UInt8) (d2 : Nat) (ht2 : takeL k b d = (x2, b2, d2)) (hd : d2 = 0) (hl : lenN (leN x2) = 1 + k) (hm : most < leN x2) :
    Calls Tryd.prog 12 #[.pointer (some ⟨r, 0, none⟩), .int .u64 most] w (NumPost E m 0 b2 4 r w) := by
  have HE := Lib.hid hE
  have HR := Lib.hid hr
  have HT := Lib.hid ht
  have HX : Hid (x.length ≤ 1) := by have := takeL_le 1 bs c; rw [ht] at this; exact this
  have HK : Hid (((widN (leN x) : Nat) : Int) = (k : Int)) := by show _ = _; simp [hk]
  have hk8 : k ≤ 8 := by rw [← hk]; exact widN_le _
  have HT2 := Lib.hid ht2
  have HX2 : Hid (x2.length ≤ k) := by have := takeL_le k b d; rw [ht2] at this; exact this
  have hki : (0 : Int) < (k : Int) := by omega
  clear ht2
  have HD := Lib.hid hd
  clear hE hr ht hk hd
  have HL : Hid (((lenN (leN x2) : Nat) : Int) = 1 + (k : Int)) := by show _ = _; rw [hl]; first | rfl | simp
  clear hl
  have hmi : (most : Int) < ((leN x2 : Nat) : Int) := by omega
  go_enter Tryd.func12, Tryd.ntmps12
  go_wp2_with fail
  refine (take_is E m 1 1 rfl bs x b c d r _ HE.out HR.out (by omega) HT.out).mono ?_
  rintro e w1 ⟨v1, rfl, s1, -, i1, g1⟩
  have S1 := Lib.hid s1
  have I1 := Lib.hid i1
  have G1 := Lib.hid g1
  clear s1 i1 g1
  go_wp2_with fail
  refine (number_any x v1 _ S1.out (by have := HX.out; omega)).mono ?_
  rintro e w' ⟨rfl, rfl⟩
  go_wp2_with fail
  refine (width_any (leN x) (k : Int) _ HK.out).mono ?_
  rintro e w' ⟨rfl, rfl⟩
  go_wp2_with fail
  refine (take_is E m k k rfl b x2 b2 d d2 r _ (HE.out.grown G1.out) I1.out (by omega) HT2.out).mono ?_
  rintro e w2 ⟨v2, rfl, s2, -, i2, g2⟩
  have S2 := Lib.hid s2
  have I2 := Lib.hid i2
  have G2 := Lib.hid (grownBy_trans G1.out g2)
  clear s2 i2 g2
  go_wp2_with fail
  refine (number_any x2 v2 _ S2.out (by have := HX2.out; omega)).mono ?_
  rintro e w' ⟨rfl, rfl⟩
  have hc1 := I2.out.cells.1
  have hf1 := I2.out.cells.2
  rw [HD.out] at hc1
  change _ = some Value.nilIface at hc1
  have he := (HE.out.grown G2.out).1.2.2
  change _ = some (Value.iface 74 (.pointer (some (E 3)))) at he
  go_wp2_with (go_at_call 9; refine (len_is (leN x2) (1 + (k : Int)) _ HL.out).mono ?_; rintro e w' ⟨rfl, rfl⟩)
  go_ret
  obtain ⟨m1, m2⟩ := I2.out.met 4
  exact ⟨rfl, m1, grownBy_trans G2.out m2⟩
set_option maxHeartbeats 400000 in
set_option maxRecDepth 100000 in
theorem num_bfine (E : Nat → Addr) (m : Nat) (most : Nat) (bs x b : List UInt8) (c d r : Nat) (w : World) (hE : ErR w E r) (hr : RdI E m w r bs c) (ht : takeL 1 bs c = (x, b, d)) (k : Nat) (hk : widN (leN x) = k) (hk0 : 0 < k) (x2 b2 : List UInt8) (d2 : Nat) (ht2 : takeL k b d = (x2, b2, d2)) (hd : d2 = 0) (hl : lenN (leN x2) = 1 + k) (hm : ¬ most < leN x2) :
    Calls Tryd.prog 12 #[.pointer (some ⟨r, 0, none⟩), .int .u64 most] w (NumPost E m (leN x2) b2 0 r w) := by
  have HE := Lib.hid hE
  have HR := Lib.hid hr
  have HT := Lib.hid ht
  have HX : Hid (x.length ≤ 1) := by have := takeL_le 1 bs c; rw [ht] at this; exact this
  have HK : Hid (((widN (leN x) : Nat) : Int) = (k : Int)) := by show _ = _; simp [hk]
  have hk8 : k ≤ 8 := by rw [← hk]; exact widN_le _
  have HT2 := Lib.hid ht2
  have HX2 : Hid (x2.length ≤ k) := by have := takeL_le k b d; rw [ht2] at this; exact this
  have hki : (0 : Int) < (k : Int) := by omega
  clear ht2
  have HD := Lib.hid hd
  clear hE hr ht hk hd
  have HL : Hid (((lenN (leN x2) : Nat) : Int) = 1 + (k : Int)) := by show _ = _; rw [hl]; first | rfl | simp
  clear hl
  have hmi : ¬ (most : Int) < ((leN x2 : Nat) : Int) := by omega
  go_enter Tryd.func12, Tryd.ntmps12
  go_wp2_with fail
  refine (take_is E m 1 1 rfl bs x b c d r _ HE.out HR.out (by omega) HT.out).mono ?_
  rintro e w1 ⟨v1, rfl, s1, -, i1, g1⟩
  have S1 := Lib.hid s1
  have I1 := Lib.hid i1
  have G1 := Lib.hid g1
  clear s1 i1 g1
  go_wp2_with fail
  refine (number_any x v1 _ S1.out (by have := HX.out; omega)).mono ?_
  rintro e w' ⟨rfl, rfl⟩
  go_wp2_with fail
  refine (width_any (leN x) (k : Int) _ HK.out).mono ?_
  rintro e w' ⟨rfl, rfl⟩
  go_wp2_with fail
  refine (take_is E m k k rfl b x2 b2 d d2 r _ (HE.out.grown G1.out) I1.out (by omega) HT2.out).mono ?_
  rintro e w2 ⟨v2, rfl, s2, -, i2, g2⟩
  have S2 := Lib.hid s2
  have I2 := Lib.hid i2
  have G2 := Lib.hid (grownBy_trans G1.out g2)
  clear s2 i2 g2
  go_wp2_with fail
  refine (number_any x2 v2 _ S2.out (by have := HX2.out; omega)).mono ?_
  rintro e w' ⟨rfl, rfl⟩
  have hc1 := I2.out.cells.1
  have hf1 := I2.out.cells.2
  rw [HD.out] at hc1
  change _ = some Value.nilIface at hc1
  go_wp2_with (go_at_call 9; refine (len_is (leN x2) (1 + (k : Int)) _ HL.out).mono ?_; rintro e w' ⟨rfl, rfl⟩)
  go_ret
  exact ⟨rfl, by rw [← HD.out]; exact I2.out, G2.out⟩
theorem num_any (E : Nat → Addr) (m : Nat) (most : Nat) (bs : List UInt8) (c r : Nat) (w : World) (hE : ErR w E r) (hr : RdI E m w r bs c) :
    Calls Tryd.prog 12 #[.pointer (some ⟨r, 0, none⟩), .int .u64 most] w (NumPost E m (numL most bs c).1 (numL most bs c).2.1 (numL most bs c).2.2 r w) := by
  obtain ⟨x, b, d, ht⟩ : ∃ x b d, takeL 1 bs c = (x, b, d) := ⟨_, _, _, rfl⟩
  obtain ⟨k, hk⟩ : ∃ k, widN (leN x) = k := ⟨_, rfl⟩
  unfold numL
  simp only [ht, hk]
  by_cases hk0 : k = 0
  · subst hk0
    simp only [if_pos]
    cases hd : d with
    | succ q => exact num_aerr E m most bs x b c d r w hE hr ht hk q hd
    | zero =>
      rw [if_neg (by omega)]
      by_cases hl : lenN (leN x) = 1
      · rw [if_neg (by omega)]
        by_cases hm : most < leN x
        · rw [if_pos hm]; exact num_amany E m most bs x b c d r w hE hr ht hk hd hl hm
        · rw [if_neg hm]; exact num_afine E m most bs x b c d r w hE hr ht hk hd hl hm
      · rw [if_pos (by omega)]; exact num_ashape E m most bs x b c d r w hE hr ht hk hd hl
  · rw [if_neg hk0]
    obtain ⟨x2, b2, d2, ht2⟩ : ∃ x b' d', takeL k b d = (x, b', d') := ⟨_, _, _, rfl⟩
    simp only [ht2]
    cases hd : d2 with
    | succ q => exact num_berr E m most bs x b c d r w hE hr ht k hk (by omega) x2 b2 d2 ht2 q hd
    | zero =>
      rw [if_neg (by omega)]
      by_cases hl : lenN (leN x2) = 1 + k
      · rw [if_neg (by omega)]
        by_cases hm : most < leN x2
        · rw [if_pos hm]; exact num_bmany E m most bs x b c d r w hE hr ht k hk (by omega) x2 b2 d2 ht2 hd hl hm
        · rw [if_neg hm]; exact num_bfine E m most bs x b c d r w hE hr ht k hk (by omega) x2 b2 d2 ht2 hd hl hm
      · rw [if_pos (by omega)]; exact num_bshape E m most bs x b c d r w hE hr ht k hk (by omega) x2 b2 d2 ht2 hd hl
end Go.Proofs.YtdgejdecahdjkaaDoor.Sha
