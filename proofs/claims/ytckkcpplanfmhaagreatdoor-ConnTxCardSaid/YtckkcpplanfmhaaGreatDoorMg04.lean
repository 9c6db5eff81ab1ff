/-
  Texts of this proof joined into one file: CmpSum, RefWire, RefBuf, Held, RefTx, RefVals, PtCalls. What each holds, and under which conditions, its own first sentence tells.
-/
import Derived.Maps.AppendAt
import Derived.Deep.RegionHeld3
import Derived.Great.BuildSlice
import Derived.Test.YtckkcpplanfmhaaGreatDoorMg01
import Derived.Test.YtckkcpplanfmhaaGreatDoorMg03
/-
  compact.Sum and the statements' own Sum answer the amounts added, or that this is none; nothing is written. Condition: the amounts lie where the slice says.
-/
namespace Go.Proofs.YtckkcpplanfmhaaGreatDoor.Sha
open Go Go.RowKit
/-- The sum's two answers. -/
def sumV (l : List Nat) : Value := .tuple #[.int .u64 (sumL l : Nat), .bool (sumIs l)]
theorem sumV_yes {l : List Nat} (h : l.sum ≤ most) : sumV l = .tuple #[.int .u64 (l.sum : Nat), .bool true] := by
  unfold sumV sumL sumIs
  rw [if_pos h, decide_eq_true h]
theorem sumV_no {l : List Nat} (h : ¬ l.sum ≤ most) : sumV l = .tuple #[.int .u64 0, .bool false] := by
  unfold sumV sumL sumIs
  rw [if_neg h, decide_eq_false h]
  rfl
def SmI (l : List Nat) (vs vi : Value) : Prop := ∃ k : Nat, k ≤ l.length ∧ vi = .int .i64 k ∧ vs = .int .u64 ((l.take k).sum : Nat) ∧ (l.take k).sum ≤ most
theorem most_eq : most = 2100000000000000 := rfl
set_option maxRecDepth 100000 in
theorem sum_c (l : List Nat) (v : Value) (w : World) (hs : SrcU w v l) (hl : l.length ≤ 9223372036854775807) :
    Calls Tryz.prog 69 #[v] w fun e w' => e = .returned (sumV l) ∧ w = w' := by
  have hm := most_eq
  rcases hs with ⟨sp, cap, rfl, rfl⟩ | ⟨h0, bb, off, cap, rfl, hc, hcell⟩
  · rw [sumV_yes (by simp)]
    clear hm hl
    go_enter Tryz.func69, Tryz.ntmps69
    go_wp2_with fail
    refine wp_loop_rounds 1 ?_
    rw [rounds_succ]
    go_wp2_with fail
    go_ret2
    exact ⟨rfl, rfl⟩
  obtain ⟨n, hn⟩ : ∃ n, n = l.length := ⟨_, rfl⟩
  rw [← hn] at hc h0 hl ⊢
  have HN := Lib.hid hn
  have HC := Lib.hid hcell
  clear hn hcell hm
  go_enter Tryz.func69, Tryz.ntmps69
  go_wp2_with fail
  go_loop [4, 9] (fun vs vi => SmI l vs vi) (fun _ vi => n - (intOf vi).toNat)
  case atStart => exact ⟨0, by omega, rfl, rfl, by simp⟩
  case round =>
    obtain ⟨k, hk, rfl, rfl, hsm⟩ := hrel
    rw [← HN.out] at hk
    obtain ⟨s, hse⟩ : ∃ s, s = (l.take k).sum := ⟨_, rfl⟩
    rw [← hse] at hsm ⊢
    rw [most_eq] at hsm
    by_cases hlt : k < n
    · obtain ⟨x, hx⟩ : ∃ x, x = l.getD k 0 := ⟨_, rfl⟩
      have ck : w.cell? ⟨bb, off + k, none⟩ = some (.int .u64 (x : Nat)) := by rw [hx]; exact HC.out k (by rw [← HN.out]; exact hlt)
      have HT : Hid ((l.take (k + 1)).sum = s + x) := by
        show _ = _
        rw [sum_take_succ (by rw [← HN.out]; exact hlt), hse, hx]
      have HO : Hid (most < s + x → ¬ l.sum ≤ most) := fun h => sum_over (k := k) (by rw [← HN.out]; exact hlt) (by rw [← hse, ← hx]; exact h)
      have HNL : Hid (k + 1 ≤ l.length) := by show _ ≤ _; rw [← HN.out]; omega
      clear hx hse HC
      by_cases hov : s + x ≤ 2100000000000000
      · have hno : ¬ (2100000000000000 - (s : Int) < (x : Int)) := by omega
        go_wp2_with fail
        go_round
        case rel => exact ⟨k + 1, HNL.out, by go_num, by rw [HT.out]; go_num, by rw [HT.out, most_eq]; exact hov⟩
        case measure => simp [intOf]; omega
      · have hyes : (2100000000000000 - (s : Int) < (x : Int)) := by omega
        have HF : Hid (sumV l = .tuple #[.int .u64 0, .bool false]) := sumV_no (HO.out (by rw [most_eq]; omega))
        clear HO HT
        go_wp2_with fail
        go_ret2
        exact ⟨by rw [HF.out]; rfl, rfl⟩
    · have hkn : k = n := by omega
      have HF : Hid (sumV l = .tuple #[.int .u64 (s : Nat), .bool true]) := by
        have e : l.take k = l := List.take_of_length_le (by rw [← HN.out]; omega)
        show _ = _
        rw [hse, e]
        exact sumV_yes (by rw [← e, ← hse, most_eq]; exact hsm)
      clear hkn hse HC
      go_wp2_with fail
      go_ret2
      exact ⟨by rw [HF.out]; rfl, rfl⟩
end Go.Proofs.YtckkcpplanfmhaaGreatDoor.Sha

/-
  The statements' own numbers in bytes and sums (chapter 2) answer what the chapter says; nothing that was there turns but the row that they are given. Conditions: own rows that are short; amounts that lie where the slice says.
-/
namespace Go.Proofs.YtckkcpplanfmhaaGreatDoor.Sha
open Go Go.RowKit
set_option maxRecDepth 100000 in
theorem rlen_c (n : Nat) (k : Int) (w : World) (hk : ((lenN n : Nat) : Int) = k) :
    Calls Tryz.prog 130 #[.int .u64 n] w fun e w' => e = .returned (.int .i64 k) ∧ w = w' := by
  subst hk
  by_cases h1 : n < 253
  · have e : lenN n = 1 := by unfold lenN; rw [if_pos h1]
    rw [e]
    clear e
    go_enter Tryz.func130, Tryz.ntmps130
    go_wp2
    go_ret
    exact ⟨rfl, rfl⟩
  by_cases h2 : n ≤ 65535
  · have e : lenN n = 3 := by unfold lenN; rw [if_neg h1, if_pos h2]
    rw [e]
    have i1 : ¬ (n : Int) < 253 := by omega
    have i2 : (n : Int) < 65536 := by omega
    clear e h1 h2
    go_enter Tryz.func130, Tryz.ntmps130
    go_wp2
    go_ret
    exact ⟨rfl, rfl⟩
  by_cases h3 : n ≤ 4294967295
  · have e : lenN n = 5 := by unfold lenN; rw [if_neg h1, if_neg h2, if_pos h3]
    rw [e]
    have i1 : ¬ (n : Int) < 253 := by omega
    have i2 : ¬ (n : Int) < 65536 := by omega
    have i3 : (n : Int) < 4294967296 := by omega
    clear e h1 h2 h3
    go_enter Tryz.func130, Tryz.ntmps130
    go_wp2
    go_ret
    exact ⟨rfl, rfl⟩
  · have e : lenN n = 9 := by unfold lenN; rw [if_neg h1, if_neg h2, if_neg h3]
    rw [e]
    have i1 : ¬ (n : Int) < 253 := by omega
    have i2 : ¬ (n : Int) < 65536 := by omega
    have i3 : ¬ (n : Int) < 4294967296 := by omega
    clear e h1 h2 h3
    go_enter Tryz.func130, Tryz.ntmps130
    go_wp2
    go_ret
    exact ⟨rfl, rfl⟩
set_option maxRecDepth 100000 in
theorem sum_r (l : List Nat) (v : Value) (w : World) (hs : SrcU w v l) (hl : l.length ≤ 9223372036854775807) (hx64 : ∀ j, l.getD j 0 ≤ 18446744073709551615) :
    Calls Tryz.prog 77 #[v] w fun e w' => e = .returned (sumV l) ∧ w = w' := by
  have hm := most_eq
  rcases hs with ⟨sp, cap, rfl, rfl⟩ | ⟨h0, bb, off, cap, rfl, hc, hcell⟩
  · rw [sumV_yes (by simp)]
    clear hm hl hx64
    go_enter Tryz.func77, Tryz.ntmps77
    go_wp2_with fail
    refine wp_loop_rounds 1 ?_
    rw [rounds_succ]
    go_wp2_with fail
    go_ret2
    exact ⟨rfl, rfl⟩
  obtain ⟨n, hn⟩ : ∃ n, n = l.length := ⟨_, rfl⟩
  rw [← hn] at hc h0 hl ⊢
  have HN := Lib.hid hn
  have HC := Lib.hid hcell
  have HX64 := Lib.hid hx64
  clear hn hcell hm hx64
  go_enter Tryz.func77, Tryz.ntmps77
  go_wp2_with fail
  go_loop [4, 5] (fun vs vi => SmI l vs vi) (fun _ vi => n - (intOf vi).toNat)
  case atStart => exact ⟨0, by omega, rfl, rfl, by simp⟩
  case round =>
    obtain ⟨k, hk, rfl, rfl, hsm⟩ := hrel
    rw [← HN.out] at hk
    obtain ⟨s, hse⟩ : ∃ s, s = (l.take k).sum := ⟨_, rfl⟩
    rw [← hse] at hsm ⊢
    rw [most_eq] at hsm
    by_cases hlt : k < n
    · obtain ⟨x, hx⟩ : ∃ x, x = l.getD k 0 := ⟨_, rfl⟩
      have hx2 := HX64.out k
      rw [← hx] at hx2
      have ck : w.cell? ⟨bb, off + k, none⟩ = some (.int .u64 (x : Nat)) := by rw [hx]; exact HC.out k (by rw [← HN.out]; exact hlt)
      have HT : Hid ((l.take (k + 1)).sum = s + x) := by
        show _ = _
        rw [sum_take_succ (by rw [← HN.out]; exact hlt), hse, hx]
      have HO : Hid (most < s + x → ¬ l.sum ≤ most) := fun h => sum_over (k := k) (by rw [← HN.out]; exact hlt) (by rw [← hse, ← hx]; exact h)
      have HNL : Hid (k + 1 ≤ l.length) := by show _ ≤ _; rw [← HN.out]; omega
      clear hx hse HC HX64
      by_cases hxm : x ≤ 2100000000000000
      · have h1 : decide (2100000000000000 < (x : Int)) = false := by simp; omega
        have h1' : ¬ (2100000000000000 < (x : Int)) := by omega
        by_cases hov : s + x ≤ 2100000000000000
        · have h2 : decide (2100000000000000 < (s : Int) + (x : Int)) = false := by simp; omega
          have h2' : ¬ (2100000000000000 < (s : Int) + (x : Int)) := by omega
          go_wp2_with fail
          go_round
          case rel => exact ⟨k + 1, HNL.out, by go_num, by rw [HT.out]; go_num, by rw [HT.out, most_eq]; exact hov⟩
          case measure => simp [intOf]; omega
        · have h2 : decide (2100000000000000 < (s : Int) + (x : Int)) = true := by simp; omega
          have h2' : (2100000000000000 < (s : Int) + (x : Int)) := by omega
          have HF : Hid (sumV l = .tuple #[.int .u64 0, .bool false]) := sumV_no (HO.out (by rw [most_eq]; omega))
          clear HO HT
          go_wp2_with fail
          go_ret2
          exact ⟨by rw [HF.out]; rfl, rfl⟩
      · have h1 : decide (2100000000000000 < (x : Int)) = true := by simp; omega
        have h1' : (2100000000000000 < (x : Int)) := by omega
        have HF : Hid (sumV l = .tuple #[.int .u64 0, .bool false]) := sumV_no (HO.out (by rw [most_eq]; omega))
        clear HO HT
        go_wp2_with fail
        go_ret2
        exact ⟨by rw [HF.out]; rfl, rfl⟩
    · have hkn : k = n := by omega
      have HF : Hid (sumV l = .tuple #[.int .u64 (s : Nat), .bool true]) := by
        have e : l.take k = l := List.take_of_length_le (by rw [← HN.out]; omega)
        show _ = _
        rw [hse, e]
        exact sumV_yes (by rw [← e, ← hse, most_eq]; exact hsm)
      clear hkn hse HC HX64
      go_wp2_with fail
      go_ret2
      exact ⟨by rw [HF.out]; rfl, rfl⟩
/-- An own row of bytes, nothing below B turned. -/
def OwnB (base B : Nat) (w0 w : World) (v : Value) (bs : List UInt8) : Prop := w.ownsRow base 5 1 v bs.length (bs.map bV) ∧ Below B w0 w ∧ B ≤ w.heap.size
theorem OwnB.push {base B : Nat} {w0 w w' : World} {v v' : Value} {bs : List UInt8} {o : Obj} (c : UInt8) (h : OwnB base B w0 w v bs) (hB : B ≤ base) (ho : w'.ownsRow base 5 1 v' (bs.length + 1) (bs.map bV ++ [.int .u8 (bv c)])) (hg : (w.alloc o).grownBy w' v.ownBlock) : OwnB base B w0 w' v' (bs ++ [c]) := by
  refine ⟨?_, own_grown (h.2.1.alloc h.2.2 o) hB (by have := h.2.2; simp; omega) (h.1.alloc o) hg, by have := hg.size; have := h.2.2; simp at *; omega⟩
  rw [List.map_append, List.length_append]
  exact ho
end Go.Proofs.YtckkcpplanfmhaaGreatDoor.Sha

/-
  The statements' own Four, Eight, Put write a number behind bytes of the caller's: whatever else was there stays, but for the row written to. Conditions: the row is the caller's own, fewer than 2^46 bytes.
-/
namespace Go.Proofs.YtckkcpplanfmhaaGreatDoor.Sha
open Go Go.RowKit
/-- An own row of bytes; since w0 nothing turned but the row r. -/
def OwnG (base : Nat) (r : Option Nat) (w0 w : World) (v : Value) (bs : List UInt8) : Prop :=
  w.ownsRow base 5 1 v bs.length (bs.map bV) ∧ w0.grownBy w r ∧ (v.ownBlock = r ∨ ∃ k, v.ownBlock = some k ∧ w0.heap.size ≤ k) ∧ base ≤ w.heap.size
theorem OwnG.start {base : Nat} {w : World} {v : Value} {bs : List UInt8} (h : w.ownsRow base 5 1 v bs.length (bs.map bV)) (hb : base ≤ w.heap.size) : OwnG base v.ownBlock w w v bs := ⟨h, grownBy_refl _ _, .inl rfl, hb⟩
theorem grown_over {w0 w w' : World} {r q : Option Nat} (h : w0.grownBy w r) (hg : w.grownBy w' q) (hq : q = r ∨ ∃ k, q = some k ∧ w0.heap.size ≤ k) : w0.grownBy w' r :=
  ⟨hg.os.trans h.os, hg.tape.trans h.tape, hg.output.trans h.output, Nat.le_trans h.size hg.size, fun k hk hne => by
    rw [hg.block k (Nat.lt_of_lt_of_le hk h.size) (by
      rcases hq with rfl | ⟨k', rfl, hk'⟩
      · exact hne
      · exact fun e => by have := Option.some.inj e; omega)]
    exact h.block k hk hne⟩
theorem OwnG.push {base : Nat} {r : Option Nat} {w0 w w' : World} {v v' : Value} {bs : List UInt8} {o : Obj} (c : UInt8) (h : OwnG base r w0 w v bs) (ho : w'.ownsRow base 5 1 v' (bs.length + 1) (bs.map bV ++ [.int .u8 (bv c)])) (hg : (w.alloc o).grownBy w' v.ownBlock)
    (hv : v'.ownBlock = v.ownBlock ∨ v'.ownBlock = some (w.alloc o).heap.size) : OwnG base r w0 w' v' (bs ++ [c]) := by
  have hg2 : w.grownBy w' v.ownBlock := grownBy_trans (World.grownBy_alloc w o _) hg
  refine ⟨?_, grown_over h.2.1 hg2 h.2.2.1, ?_, Nat.le_trans h.2.2.2 hg2.size⟩
  · rw [List.map_append, List.length_append]
    exact ho
  · rcases hv with e | e
    · rw [e]
      exact h.2.2.1
    · exact .inr ⟨_, e, by have := h.2.1.size; simp; omega⟩
theorem OwnG.trans {base : Nat} {r : Option Nat} {w0 w w' : World} {v v' : Value} {bs cs : List UInt8} (h : OwnG base r w0 w v bs) (k : OwnG base v.ownBlock w w' v' cs) : OwnG base r w0 w' v' cs :=
  ⟨k.1, grown_over h.2.1 k.2.1 h.2.2.1, by
    rcases k.2.2.1 with e | ⟨q, e, hq⟩
    · rw [e]
      exact h.2.2.1
    · exact .inr ⟨q, e, Nat.le_trans h.2.1.size hq⟩, k.2.2.2⟩
/-- Many bytes at once. -/
theorem OwnG.app {base : Nat} {r : Option Nat} {w0 w w' : World} {v v' : Value} {bs cs : List UInt8} (h : OwnG base r w0 w v bs) (ho : w'.ownsRow base 5 1 v' (bs.length + cs.length) (bs.map bV ++ cs.map bV)) (hg : w.grownBy w' v.ownBlock)
    (hv : v'.ownBlock = v.ownBlock ∨ v'.ownBlock = some w.heap.size) : OwnG base r w0 w' v' (bs ++ cs) := by
  refine ⟨?_, grown_over h.2.1 hg h.2.2.1, ?_, Nat.le_trans h.2.2.2 hg.size⟩
  · rw [List.map_append, List.length_append]
    exact ho
  · rcases hv with e | e
    · rw [e]
      exact h.2.2.1
    · exact .inr ⟨_, e, h.2.1.size⟩
/-- Only new memory turned, if the row is above. -/
theorem OwnG.below {base B : Nat} {r : Option Nat} {w0 w : World} {v : Value} {bs : List UInt8} (h : OwnG base r w0 w v bs) (hr : ∀ k, r = some k → B ≤ k) (hB : B ≤ w0.heap.size) : Below B w0 w :=
  ⟨h.2.1.os, h.2.1.tape, h.2.1.output, h.2.1.size, fun k hk => h.2.1.block k (by omega) (fun e => by have := hr k e.symm; omega)⟩
section
variable {P : Program}
/-- Any bytes behind an own row: it stays where it was, or is new. -/
theorem wp_append_g (w : World) {o : Oper} {a : Act} {K : Act → World → Prop} {Q : Exit → Act → World → Prop}
    (s x : Operand) (t : TypeId) (hop : o.op = Op.call { callee := Callee.builtin Builtin.append, args := #[s, x], argTypes := #[t, t] })
    (base : Nat) (e : TypeId) (i : TypeInfo) (h1 : P.underlying t = some (.slice e)) (h2 : P.info? e = some i) (hz : i.zero = some (.int .u8 0)) (h4 : i.size = 1) (h5 : i.bytes = 1)
    (v : Value) (k : Nat) (xs : List Value) (hs : a.eval s = v) (hown : w.ownsRow base e 1 v k xs) (y : Value) (bs : List UInt8) (hx : a.eval x = y) (hsrc : SrcB w y bs) (hlen : k + bs.length ≤ 70368744177680) (hbase : base ≤ w.heap.size)
    (hK : ∀ v' w', w'.ownsRow base e 1 v' (k + bs.length) (xs ++ bs.map bV) → w.grownBy w' v.ownBlock → (v'.ownBlock = v.ownBlock ∨ v'.ownBlock = some w.heap.size) → K (a.put o.dst v') w') : o.wp P a w K Q := by
  rcases hsrc with ⟨sp, c, rfl, rfl⟩ | ⟨h0, bb, off, c, rfl, hc, hcell⟩
  · have hrun := run_append_any0 (P := P) (w := w) base t o.type e i h1 h2 v k xs (by rw [h4]; exact hown) sp c
    unfold Oper.wp
    simp [execOp, hop, resolve, invoke, builtin, hs, hx, hrun, Result.andThen]
    refine hK v w ?_ (grownBy_refl _ _) (.inl rfl)
    show w.ownsRow _ _ _ _ _ _
    simpa using hown
  · obtain ⟨v', w', hr, h2', h3', _, h5'⟩ := run_append_own_at (P := P) w base t o.type e i (.int .u8 0) 1 1 h1 h2 hz h4 h5 rfl (by decide) v k xs hown ⟨bb, off, none⟩ bs.length c (bs.map bV) (by simp)
      (fun j u hu => by
        rw [List.getElem?_map] at hu
        obtain ⟨b, hb, rfl⟩ := Option.map_eq_some_iff.1 hu
        have hj := (List.getElem?_eq_some_iff.1 hb).1
        rw [Addr.add_mid, hcell j hj]
        simp [bV, List.getD, hb])
      (bV_one' bs) (by unfold maxLen; omega) (by omega) hbase
    unfold Oper.wp execOp
    simp only [hop, resolve, invoke, builtin, Sem.run_bind, Sem.run_pure, Result.andThen_ok, List.map_toArray, List.map_cons, List.map_nil, hs, hx, hr]
    exact hK v' w' h2' h3' h5'
theorem wpList_append_g (w : World) {ops : Array Oper} {rest : List Oper} {o : Oper} {a : Act} {Q : Exit → Act → World → Prop} (hg : o.guard = none)
    (s x : Operand) (t : TypeId) (hop : o.op = Op.call { callee := Callee.builtin Builtin.append, args := #[s, x], argTypes := #[t, t] })
    (base : Nat) (e : TypeId) (i : TypeInfo) (h1 : P.underlying t = some (.slice e)) (h2 : P.info? e = some i) (hz : i.zero = some (.int .u8 0)) (h4 : i.size = 1) (h5 : i.bytes = 1)
    (v : Value) (k : Nat) (xs : List Value) (hs : a.eval s = v) (hown : w.ownsRow base e 1 v k xs) (y : Value) (bs : List UInt8) (hx : a.eval x = y) (hsrc : SrcB w y bs) (hlen : k + bs.length ≤ 70368744177680) (hbase : base ≤ w.heap.size)
    (hK : ∀ v' w', w'.ownsRow base e 1 v' (k + bs.length) (xs ++ bs.map bV) → w.grownBy w' v.ownBlock → (v'.ownBlock = v.ownBlock ∨ v'.ownBlock = some w.heap.size) → wpList P ops Q rest (a.put o.dst v') w') : wpList P ops Q (o :: rest) a w :=
  wpList_plain hg fun _ hK' => wp_append_g w s x t hop base e i h1 h2 hz h4 h5 v k xs hs hown y bs hx hsrc hlen hbase (fun v' w' a1 a2 a3 => hK' _ _ (hK v' w' a1 a2 a3))
end
def LgInv (n many base : Nat) (r : Option Nat) (bs : List UInt8) (w : World) (vb vi : Value) (wr : World) : Prop :=
  ∃ k : Nat, k ≤ many ∧ vi = .int .i64 k ∧ OwnG base r w wr vb (bs ++ leB n k)
set_option maxHeartbeats 400000 in
set_option maxRecDepth 100000 in
theorem little_g (n many base : Nat) (km : Int) (hkm : km = (many : Int)) (bs : List UInt8) (v : Value) (w : World) (hw : many ≤ 8) (hb : base ≤ w.heap.size) (hl : bs.length ≤ 70368744177664) (ho : w.ownsRow base 5 1 v bs.length (bs.map bV)) :
    Calls Tryz.prog 81 #[v, .int .u64 n, .int .i64 km] w fun e w' => ∃ v', e = .returned v' ∧ OwnG base v.ownBlock w w' v' (bs ++ leB n many) := by
  subst hkm
  obtain ⟨i0, hi, hz0, hz1, hz2⟩ := info_parts info_u8
  have HO : Hid (OwnG base v.ownBlock w w v (bs ++ leB n 0)) := OwnG.start (by simpa [leB] using ho) hb
  clear ho
  go_enter Tryz.func81, Tryz.ntmps81
  go_wp2_with fail
  go_loopw [0, 7] (fun vb vi wr => LgInv n many base v.ownBlock bs w vb vi wr) (fun _ i _ => many - (intOf i).toNat)
  case atStart => exact ⟨0, by omega, rfl, HO.out⟩
  case round =>
    obtain ⟨k, hk, rfl, hown⟩ := hrel
    have HO := Lib.hid hown
    clear hown
    by_cases hlt : k < many
    · have e1 : (8 * (k : Int)).toNat = 8 * k := by omega
      have e2 : (2 : Nat) ^ (8 * k) = 256 ^ k := by rw [Nat.pow_mul]
      obtain ⟨q, hq⟩ : ∃ q, q = n / 256 ^ k := ⟨_, rfl⟩
      have hby : (n : Int) / 2 ^ (8 * k) % 256 = bv (UInt8.ofNat q) := by
        rw [← bv_of, IntKind.wrap_u8', hq, ← e2]
        simp
      obtain ⟨c, hc⟩ : ∃ c, c = UInt8.ofNat q := ⟨_, rfl⟩
      rw [← hc] at hby
      have HT : Hid (bs ++ leB n (k + 1) = (bs ++ leB n k) ++ [c]) := by
        show _ = _
        rw [hc, hq, leB, List.append_assoc]
      obtain ⟨cs, hcs⟩ : ∃ cs, cs = bs ++ leB n k := ⟨_, rfl⟩
      have hcl : cs.length ≤ 70368744177680 := by rw [hcs, List.length_append, leB_length]; omega
      rw [← hcs] at HO HT
      clear hq hc hcs e2
      go_wp2_with (at_builtin; refine wpList_append_own_at _ rfl _ _ 51 rfl base 5 i0 (.int .u8 0) 1 1 Tryz.underlying51 hi hz0 hz1 hz2 rfl (by decide) _ cs.length _ rfl (HO.out.1.alloc _) ⟨wr.heap.size, 0, none⟩ 1 1 [.int .u8 (bv c)] rfl rfl (cell_one_new _ _ _) (one_u8 _) (by unfold maxLen; omega) (by omega) (by have := HO.out.2.2.2; simp; omega) ?_; intro v2 w3 ho3 hg3 _ hv3; have HN := Lib.hid (HO.out.push c ho3 hg3 hv3); clear ho3 hg3 hv3; go_frame)
      go_roundw
      case rel => exact ⟨k + 1, by omega, by go_num, by rw [HT.out]; exact HN.out⟩
      case measure => simp [intOf]; omega
    · have hkn : k = many := by omega
      subst hkn
      clear hlt
      go_wp2_with fail
      go_ret
      exact ⟨_, rfl, HO.out⟩
set_option maxHeartbeats 1000000 in
set_option maxRecDepth 100000 in
theorem rput_g (n base : Nat) (bs : List UInt8) (v : Value) (w : World) (hb : base ≤ w.heap.size) (hl : bs.length ≤ 70368744177600) (ho : w.ownsRow base 5 1 v bs.length (bs.map bV)) :
    Calls Tryz.prog 98 #[v, .int .u64 n] w fun e w' => ∃ v', e = .returned v' ∧ OwnG base v.ownBlock w w' v' (bs ++ putL n) := by
  obtain ⟨i0, hi, hz0, hz1, hz2⟩ := info_parts info_u8
  have HO : Hid (OwnG base v.ownBlock w w v bs) := OwnG.start ho hb
  clear ho
  rcases lenN_eq n with ⟨e, e2⟩ | ⟨e, e2⟩ | ⟨e, e2⟩ | ⟨e, e2⟩ <;> rw [e2] <;> clear e2
  · have hby : (n : Int) % 256 = bv (UInt8.ofNat n) := by rw [← bv_of, IntKind.wrap_u8']
    obtain ⟨c, hc⟩ : ∃ c, c = UInt8.ofNat n := ⟨_, rfl⟩
    rw [← hc] at hby ⊢
    have HL : Hid (((lenN n : Nat) : Int) = 1) := by show _ = _; rw [e]; rfl
    clear e hc
    go_enter Tryz.func98, Tryz.ntmps98
    go_wp2_with (first | (go_at_call 130; refine (rlen_c n 1 _ HL.out).mono ?_; rintro e w' ⟨rfl, rfl⟩) | (at_builtin; refine wpList_append_own_at _ rfl _ _ 51 rfl base 5 i0 (.int .u8 0) 1 1 Tryz.underlying51 hi hz0 hz1 hz2 rfl (by decide) v bs.length _ rfl (HO.out.1.alloc _) ⟨w.heap.size, 0, none⟩ 1 1 [.int .u8 (bv c)] rfl rfl (cell_one_new _ _ _) (one_u8 _) (by unfold maxLen; omega) (by omega) (by simp; omega) ?_; intro v2 w3 ho3 hg3 _ hv3; have HN := Lib.hid (HO.out.push c ho3 hg3 hv3); clear ho3 hg3 hv3; go_frame))
    go_ret
    exact ⟨_, rfl, HN.out⟩
  · have HL : Hid (((lenN n : Nat) : Int) = 3) := by show _ = _; rw [e]; rfl
    clear e
    go_enter Tryz.func98, Tryz.ntmps98
    go_wp2_with (first | (go_at_call 130; refine (rlen_c n 3 _ HL.out).mono ?_; rintro e w' ⟨rfl, rfl⟩) | (at_builtin; refine wpList_append_own_at _ rfl _ _ 51 rfl base 5 i0 (.int .u8 0) 1 1 Tryz.underlying51 hi hz0 hz1 hz2 rfl (by decide) v bs.length _ rfl (HO.out.1.alloc _) ⟨w.heap.size, 0, none⟩ 1 1 [.int .u8 (bv 253)] rfl rfl (cell_one_new _ _ _) (one_u8 _) (by unfold maxLen; omega) (by omega) (by simp; omega) ?_; intro v2 w3 ho3 hg3 _ hv3; have HN := Lib.hid (HO.out.push 253 ho3 hg3 hv3); clear ho3 hg3 hv3; go_frame) | (go_at_call 81; refine (little_g n 2 base 2 rfl (bs ++ [253]) v2 _ (by omega) HN.out.2.2.2 (by simp; omega) HN.out.1).mono ?_; rintro e w4 ⟨v4, rfl, h4⟩; have H4 := Lib.hid h4; clear h4))
    go_ret
    have h := H4.out
    rw [List.append_assoc] at h
    exact ⟨_, rfl, HN.out.trans h⟩
  · have HL : Hid (((lenN n : Nat) : Int) = 5) := by show _ = _; rw [e]; rfl
    clear e
    go_enter Tryz.func98, Tryz.ntmps98
    go_wp2_with (first | (go_at_call 130; refine (rlen_c n 5 _ HL.out).mono ?_; rintro e w' ⟨rfl, rfl⟩) | (at_builtin; refine wpList_append_own_at _ rfl _ _ 51 rfl base 5 i0 (.int .u8 0) 1 1 Tryz.underlying51 hi hz0 hz1 hz2 rfl (by decide) v bs.length _ rfl (HO.out.1.alloc _) ⟨w.heap.size, 0, none⟩ 1 1 [.int .u8 (bv 254)] rfl rfl (cell_one_new _ _ _) (one_u8 _) (by unfold maxLen; omega) (by omega) (by simp; omega) ?_; intro v2 w3 ho3 hg3 _ hv3; have HN := Lib.hid (HO.out.push 254 ho3 hg3 hv3); clear ho3 hg3 hv3; go_frame) | (go_at_call 81; refine (little_g n 4 base 4 rfl (bs ++ [254]) v2 _ (by omega) HN.out.2.2.2 (by simp; omega) HN.out.1).mono ?_; rintro e w4 ⟨v4, rfl, h4⟩; have H4 := Lib.hid h4; clear h4))
    go_ret
    have h := H4.out
    rw [List.append_assoc] at h
    exact ⟨_, rfl, HN.out.trans h⟩
  · have HL : Hid (((lenN n : Nat) : Int) = 9) := by show _ = _; rw [e]; rfl
    clear e
    go_enter Tryz.func98, Tryz.ntmps98
    go_wp2_with (first | (go_at_call 130; refine (rlen_c n 9 _ HL.out).mono ?_; rintro e w' ⟨rfl, rfl⟩) | (at_builtin; refine wpList_append_own_at _ rfl _ _ 51 rfl base 5 i0 (.int .u8 0) 1 1 Tryz.underlying51 hi hz0 hz1 hz2 rfl (by decide) v bs.length _ rfl (HO.out.1.alloc _) ⟨w.heap.size, 0, none⟩ 1 1 [.int .u8 (bv 255)] rfl rfl (cell_one_new _ _ _) (one_u8 _) (by unfold maxLen; omega) (by omega) (by simp; omega) ?_; intro v2 w3 ho3 hg3 _ hv3; have HN := Lib.hid (HO.out.push 255 ho3 hg3 hv3); clear ho3 hg3 hv3; go_frame) | (go_at_call 81; refine (little_g n 8 base 8 rfl (bs ++ [255]) v2 _ (by omega) HN.out.2.2.2 (by simp; omega) HN.out.1).mono ?_; rintro e w4 ⟨v4, rfl, h4⟩; have H4 := Lib.hid h4; clear h4))
    go_ret
    have h := H4.out
    rw [List.append_assoc] at h
    exact ⟨_, rfl, HN.out.trans h⟩
set_option maxRecDepth 100000 in
theorem rfour_g (n base : Nat) (bs : List UInt8) (v : Value) (w : World) (hn : n ≤ 4294967295) (hb : base ≤ w.heap.size) (hl : bs.length ≤ 70368744177600) (ho : w.ownsRow base 5 1 v bs.length (bs.map bV)) :
    Calls Tryz.prog 46 #[v, .int .u32 n] w fun e w' => ∃ v', e = .returned v' ∧ OwnG base v.ownBlock w w' v' (bs ++ leB n 4) := by
  have HO := Lib.hid ho
  clear ho
  go_enter Tryz.func46, Tryz.ntmps46
  go_wp2_with (go_at_call 81; refine (little_g n 4 base 4 rfl bs v _ (by omega) hb (by omega) HO.out).mono ?_; rintro e w4 ⟨v4, rfl, h4⟩; have H4 := Lib.hid h4; clear h4)
  go_ret
  exact ⟨_, rfl, H4.out⟩
set_option maxRecDepth 100000 in
theorem reight_g (n base : Nat) (bs : List UInt8) (v : Value) (w : World) (hb : base ≤ w.heap.size) (hl : bs.length ≤ 70368744177600) (ho : w.ownsRow base 5 1 v bs.length (bs.map bV)) :
    Calls Tryz.prog 99 #[v, .int .u64 n] w fun e w' => ∃ v', e = .returned v' ∧ OwnG base v.ownBlock w w' v' (bs ++ leB n 8) := by
  have HO := Lib.hid ho
  clear ho
  go_enter Tryz.func99, Tryz.ntmps99
  go_wp2_with (go_at_call 81; refine (little_g n 8 base 8 rfl bs v _ (by omega) hb (by omega) HO.out).mono ?_; rintro e w4 ⟨v4, rfl, h4⟩; have H4 := Lib.hid h4; clear h4)
  go_ret
  exact ⟨_, rfl, H4.out⟩
end Go.Proofs.YtckkcpplanfmhaaGreatDoor.Sha

/-
  What may be read first in a region that draws its order; bytes in the middle of a block as a source. No conditions beyond those that each states.
-/
namespace Go.Proofs.YtckkcpplanfmhaaGreatDoor.Sha
open Go Go.RowKit
/-- A cell that every world of S holds may be read first. -/
theorem yieldsIf_load_one {P : Program} {ops : Array Oper} {S : World → Prop} {op : Oper} {a : Act} (hw : Region.wanted op (yielded ops a.tmps) = true) (ty : TypeId) (x : Operand) (ho : op.op = .load ty x)
    (b off : Nat) (hx : a.eval x = .pointer (some ⟨b, off, none⟩)) (v : Value) (d : TypeDesc) (hS : ∀ w, S w → w.cell? ⟨b, off, none⟩ = some v)
    (hu : P.underlying ty = some d) (hd : d.isRow = false) : YieldsIf P ops S op v a :=
  .inl ⟨hw, fun w hw' => by
    have hagg : (isAgg ty).run P w = .ok false w := by
      unfold isAgg
      rw [Sem.run_bind, run_underlying hu w]
      cases d <;> simp_all
    unfold execOp
    simp [ho, hx, Instr.loadAt, Instr.sureAddr, Sem.run_bind, loadVar, hagg, hS w hw']⟩
/-- A whole row that every world of S holds may be read first. -/
theorem yieldsIf_load_row {P : Program} {ops : Array Oper} {S : World → Prop} {op : Oper} {a : Act} (hw : Region.wanted op (yielded ops a.tmps) = true) (ty : TypeId) (x : Operand) (ho : op.op = .load ty x)
    (g : Nat) (hx : a.eval x = .pointer (some ⟨g, 0, none⟩)) (t : TypeId) (cs : Array Value) (fr : Nat × Nat) (d : TypeDesc) (hS : ∀ w, S w → w.heap[g]? = some (.cells cs t fr))
    (hu : P.underlying ty = some d) (hd : (match d with | .struct _ | .array _ _ => true | _ => false) = true) (hi : (P.info? ty).map (·.size) = some cs.size) : YieldsIf P ops S op (.agg cs) a :=
  .inl ⟨hw, fun w hw' => by
    unfold execOp
    simp only [ho, hx, Instr.loadAt, Instr.sureAddr, Sem.run_bind, Sem.run_pure, Result.andThen_ok, run_loadVar_row w g t ty cs fr d (hS w hw') hu hd hi]⟩
/-- A part of a block may be read first. -/
theorem yieldsIf_load_mid {P : Program} {ops : Array Oper} {S : World → Prop} {op : Oper} {a : Act} (hw : Region.wanted op (yielded ops a.tmps) = true) (ty : TypeId) (x : Operand) (ho : op.op = .load ty x)
    (b off : Nat) (hx : a.eval x = .pointer (some ⟨b, off, none⟩)) (cs : List Value) (d : TypeDesc) (hS : ∀ w, S w → w.rangeAt b off cs)
    (hu : P.underlying ty = some d) (hd : d.isRow = true) (hi : (P.info? ty).map (·.size) = some cs.length) : YieldsIf P ops S op (.agg cs.toArray) a :=
  .inl ⟨hw, fun w hw' => by
    unfold execOp
    simp only [ho, hx, Instr.loadAt, Instr.sureAddr, Sem.run_bind, Sem.run_pure, Result.andThen_ok, run_loadVar_mid w b off ty cs d (hS w hw') hu hd hi]⟩
/-- A part of a block as a source of bytes. -/
theorem src_range {w : World} {b o m c : Nat} {bs : List UInt8} (h : w.rangeAt b o (bs.map bV)) (hm : m = bs.length) (h0 : 0 < m) (hc : m ≤ c) : SrcB w (.slice (some ⟨b, o, none⟩) m c) bs := by
  refine .inr ⟨by omega, b, o, c, by rw [hm], by omega, fun j hj => h j _ ?_⟩
  rw [List.getElem?_map, List.getElem?_eq_getElem hj]
  simp [bV, List.getD, List.getElem?_eq_getElem hj]
theorem get_of_drop {α : Type} {l rest : List α} {i : Nat} {x : α} (h : l.drop i = x :: rest) : l[i]? = some x := by
  have := congrArg (·[0]?) h
  simpa [List.getElem?_drop] using this
section
variable {P : Program} {md : Region.Mode} {l : List Oper} {Q : Exit → Act → World → Prop} {S : World → Prop}
/-- Take operation i first: the operation comes out written. -/
theorem held_take {i : Nat} {oi : Oper} {rest : List Oper} {v : Value} {fuel : Nat} {listed : Array Bool} {a : Act} {w : World} (hd : l.drop i = oi :: rest)
    (hs : Region.noSelect l.toArray = true) (hf : Region.free md l.toArray listed i = true) (hr : (Region.ready md l.toArray listed).contains i = true)
    (hQ : ∀ c a w, Q (.panic c) (a.put oi.dst v) w → Q (.panic c) a w) (hy : YieldsIf P l.toArray S oi v a) (hS : S w)
    (h : wpAnyH P md l.toArray Q S fuel (listed.setIfInBounds i true) (a.put oi.dst v) w) : wpAnyH P md l.toArray Q S (fuel + 1) listed a w :=
  wpAnyH_take (by rw [List.getElem?_toArray]; exact get_of_drop hd) hs hf hr hQ hy hS h
/-- Operation i comes up. -/
theorem held_cons {fuel : Nat} {listed : Array Bool} {a : Act} {w : World} {i : Nat} {o : Oper} {rest : List Oper} {rs : List Nat} (hd : l.drop i = o :: rest)
    (h : ∀ K' : Act → World → Prop, Shut (∀ a w, S w → (S w → wpAnyH P md l.toArray Q S fuel (listed.setIfInBounds i true) a w) → K' a w) → if Region.wanted o (yielded l.toArray a.tmps) = true then Oper.wp P o a w K' Q else K' (a.put o.dst undef) w)
    (hs : AllReadyH P md l.toArray Q S fuel listed a w rs) : AllReadyH P md l.toArray Q S fuel listed a w (i :: rs) :=
  AllReadyH.cons (by rw [List.getElem?_toArray]; exact get_of_drop hd) h hs
end
end Go.Proofs.YtckkcpplanfmhaaGreatDoor.Sha

/-
  The statements' own TxBytes writes a transaction's bytes as the chapter says. Nothing that was there turns. Conditions: a transaction that lies in memory; its inputs' bytes and its outputs' bytes fewer than 2^44.
-/
namespace Go.Proofs.YtckkcpplanfmhaaGreatDoor.Sha
open Go Go.RowKit
theorem gr_drew {w w' : World} {r : Option Nat} (h : w.grownBy w' r) : w.grownBy w'.drew r := ⟨h.os, h.tape, h.output, h.size, h.block⟩
theorem OwnG.keep {base : Nat} {r : Option Nat} {w0 w w' : World} {v : Value} {bs : List UInt8} (h : OwnG base r w0 w v bs) (hb : Below w.heap.size w w') : OwnG base r w0 w' v bs :=
  ⟨own_kept h.1 hb, grownBy_trans h.2.1 (grownBy_of_below hb _), h.2.2.1, Nat.le_trans h.2.2.2 hb.size⟩
theorem insB_succ {l : List TIn} {k : Nat} {x : TIn} (h : l[k]? = some x) : insB (l.take (k + 1)) = insB (l.take k) ++ inB x := by
  have hk := (List.getElem?_eq_some_iff.1 h).1
  rw [List.take_succ_eq_append_getElem hk]
  have e : l[k] = x := (List.getElem?_eq_some_iff.1 h).2
  rw [e]
  simp [insB]
theorem outsB_succ {l : List TOut} {k : Nat} {x : TOut} (h : l[k]? = some x) : outsB (l.take (k + 1)) = outsB (l.take k) ++ outB x := by
  have hk := (List.getElem?_eq_some_iff.1 h).1
  rw [List.take_succ_eq_append_getElem hk]
  have e : l[k] = x := (List.getElem?_eq_some_iff.1 h).2
  rw [e]
  simp [outsB]
theorem insB_le {l : List TIn} {k : Nat} {x : TIn} (h : l[k]? = some x) : (insB (l.take k)).length + (inB x).length ≤ (insB l).length := by
  rw [← List.length_append, ← insB_succ h]
  have e : insB l = insB (l.take (k + 1)) ++ insB (l.drop (k + 1)) := by
    conv => lhs; rw [← List.take_append_drop (k + 1) l]
    simp only [insB, List.flatMap_append]
  rw [e, List.length_append]
  omega
theorem outsB_le {l : List TOut} {k : Nat} {x : TOut} (h : l[k]? = some x) : (outsB (l.take k)).length + (outB x).length ≤ (outsB l).length := by
  rw [← List.length_append, ← outsB_succ h]
  have e : outsB l = outsB (l.take (k + 1)) ++ outsB (l.drop (k + 1)) := by
    conv => lhs; rw [← List.take_append_drop (k + 1) l]
    simp only [outsB, List.flatMap_append]
  rw [e, List.length_append]
  omega
def TbInv (base n : Nat) (A : Nat → List UInt8) (w1 : World) (vb vi : Value) (wr : World) : Prop :=
  ∃ (k : Nat) (vq : Value), vq = vb ∧ k ≤ n ∧ vi = .int .i64 k ∧ Below w1.heap.size w1 wr ∧ ∃ r w0, r = none ∧ OwnG base r w0 wr vq (A k)
set_option maxHeartbeats 4000000 in
set_option maxRecDepth 100000 in
theorem rtxb_any (t : TTx) (v : Value) (w : World) (h1 : TxAt w v t) (hli : (insB t.ins).length ≤ 17592186044416) (hlo : (outsB t.outs).length ≤ 17592186044416) (hni : t.ins.length ≤ 9223372036854775807) (hno : t.outs.length ≤ 9223372036854775807) :
    Calls Tryz.prog 63 #[v] w fun e w' => ∃ v', e = .returned v' ∧ w'.ownsRow w.heap.size 5 1 v' (txB t).length ((txB t).map bV) ∧ Below w.heap.size w w' := by
  obtain ⟨ht0, iv, ov, rfl, hti, hto⟩ := h1
  obtain ⟨si, ci, rfl, hci, hti⟩ := hti
  obtain ⟨so, co, rfl, hco, hto⟩ := hto
  obtain ⟨i0, hi, hz0, hz1, hz2⟩ := info_parts info_u8
  have HTI := Lib.hid hti
  have HTO := Lib.hid hto
  have HLI := Lib.hid hli
  have HLO := Lib.hid hlo
  obtain ⟨ni, hn1⟩ : ∃ ni, ni = t.ins.length := ⟨_, rfl⟩
  obtain ⟨no, hn2⟩ : ∃ no, no = t.outs.length := ⟨_, rfl⟩
  obtain ⟨vt, hvt⟩ : ∃ vt, vt = t.ver := ⟨_, rfl⟩
  obtain ⟨tt, htt⟩ : ∃ tt, tt = t.time := ⟨_, rfl⟩
  rw [← hn1] at hni
  rw [← hn2] at hno
  have NI := Lib.hid hn1
  have NO := Lib.hid hn2
  have VT := Lib.hid hvt
  have TT := Lib.hid htt
  have VTB : Hid (vt ≤ 4294967295) := by rw [hvt]; exact ht0.1
  have TTB : Hid (tt ≤ 4294967295) := by rw [htt]; exact ht0.2
  simp only [txL, ← hn1, ← hn2, ← hvt, ← htt]
  have hwi : IntKind.u64.wrap (ni : Int) = (ni : Int) := by rw [IntKind.wrap_u64]; omega
  have hwo : IntKind.u64.wrap (no : Int) = (no : Int) := by rw [IntKind.wrap_u64]; omega
  clear hn1 hn2 hci hco hvt htt ht0 hti hto hli hlo
  go_enter Tryz.func63, Tryz.ntmps63
  go_upto_region 1 with fail
  have F := Lib.hid (heap_alloc_new w (.cells [nV vt, .slice si ni ci, .slice so no co, nV tt].toArray 27 (0, 0)))
  have B0 := Lib.hid ((Below.refl w.heap.size w).alloc (Nat.le_refl _) (.cells [nV vt, .slice si ni ci, .slice so no co, nV tt].toArray 27 (0, 0)))
  have hz1' : (w.alloc (.cells [nV vt, .slice si ni ci, .slice so no co, nV tt].toArray 27 (0, 0))).heap.size = w.heap.size + 1 := by simp
  generalize hw1 : World.alloc _ _ = w1
  have e1 : w.alloc (.cells [nV vt, .slice si ni ci, .slice so no co, nV tt].toArray 27 (0, 0)) = w1 := hw1
  rw [e1] at F B0 hz1'
  clear hw1 e1
  obtain ⟨base, hbase⟩ : ∃ base, base = w1.heap.size := ⟨_, rfl⟩
  have HBS : Hid (w1.heap.size ≤ base) := by rw [hbase]; exact Nat.le_refl _
  have hbw : w.heap.size ≤ base := by omega
  have BOX : Hid (∀ w', Below w1.heap.size w1 w' → ∀ j v, [nV vt, .slice si ni ci, .slice so no co, nV tt][j]? = some v → w'.cell? ⟨w.heap.size, j, none⟩ = some v) := fun w' hw' j v hj => by
    rw [cell_of_row _ _ _ _ _ _ (row_below F.out hw'), List.getElem?_toArray]
    exact hj
  clear hz1'
  refine wp_region_held_drew (S := (fun w' => Below w1.heap.size w1 w')) (by kernel_rfl) (Below.drew (Below.refl _ _)) (fun hHeld => ?_)
  generalize hwd : w1.drew = w1d
  rw [hwd] at hHeld
  clear hwd
  have H0 := Lib.hid (OwnG.start (base := base) (w := w1d) (v := .slice none 0 0) (bs := []) (World.ownsRow_nil _ _ _ _) (by have := hHeld.size; omega))
  refine held_take (i := 0) (v := (.pointer (some ⟨w.heap.size, 0, none⟩))) rfl (by kernel_rfl) (by kernel_rfl) (by kernel_rfl) (fun _ _ _ h => h) (Or.inl ⟨by rfl, fun w' _ => by kernel_rfl⟩) hHeld ?_
  go_frame
  refine held_take (i := 1) (v := (.int .u32 (vt : Int))) rfl (by kernel_rfl) (by kernel_rfl) (by kernel_rfl) (fun _ _ _ h => h) (yieldsIf_load_one (by rfl) 23 (.tmp 7) rfl w.heap.size (0) rfl _ _ (fun w' hw' => BOX.out w' hw' 0 _ rfl) Tryz.underlying23 rfl) hHeld ?_
  go_frame
  refine held_take (i := 3) (v := (.pointer (some ⟨w.heap.size, 1, none⟩))) rfl (by kernel_rfl) (by kernel_rfl) (by kernel_rfl) (fun _ _ _ h => h) (Or.inl ⟨by rfl, fun w' _ => by kernel_rfl⟩) hHeld ?_
  go_frame
  refine held_take (i := 4) (v := (.slice si ni ci)) rfl (by kernel_rfl) (by kernel_rfl) (by kernel_rfl) (fun _ _ _ h => h) (yieldsIf_load_one (by rfl) 24 (.tmp 10) rfl w.heap.size (1) rfl _ _ (fun w' hw' => BOX.out w' hw' 1 _ rfl) Tryz.underlying24 rfl) hHeld ?_
  go_frame
  refine held_take (i := 5) (v := (.int .i64 (ni : Int))) rfl (by kernel_rfl) (by kernel_rfl) (by kernel_rfl) (fun _ _ _ h => h) (Or.inl ⟨by rfl, fun w' _ => by kernel_rfl⟩) hHeld ?_
  go_frame
  refine held_take (i := 6) (v := (.int .u64 (ni : Int))) rfl (by kernel_rfl) (by kernel_rfl) (by kernel_rfl) (fun _ _ _ h => h) (Or.inl ⟨by rfl, fun w' _ => by go_simp⟩) hHeld ?_
  go_frame
  refine wpAnyH_ready (rs := [2]) (by kernel_rfl) (by simp) (held_cons rfl (fun K hK => ?_) AllReadyH.nil)
  go_simp
  refine (rfour_g vt base _ _ w1d VTB.out H0.out.2.2.2 (by simp) H0.out.1).mono ?_
  rintro e w2 ⟨v2, rfl, h2⟩
  have H2 := Lib.hid h2
  have hb2 := hHeld.trans ((h2.below (B := w1d.heap.size) (fun k hk => by cases hk) (Nat.le_refl _)).mono hHeld.size)
  clear hHeld h2 H0
  go_wp2_with fail
  refine hK.out _ _ hb2 (fun hHeld => ?_)
  clear hK K hb2
  refine wpAnyH_ready (rs := [7]) (by kernel_rfl) (by simp) (held_cons rfl (fun K hK => ?_) AllReadyH.nil)
  go_simp
  refine (rput_g ni base _ _ w2 H2.out.2.2.2 (by simp [leB_length]) H2.out.1).mono ?_
  rintro e w3 ⟨v3, rfl, h3⟩
  have H3 := Lib.hid (H2.out.trans h3)
  have hb3 := hHeld.trans ((h3.below (B := w1.heap.size) (fun k hk => by rcases H2.out.1.lt k hk with ⟨q, _⟩; omega) hHeld.size))
  clear h3 hHeld H2
  go_wp2_with fail
  refine hK.out _ _ hb3 (fun hHeld => ?_)
  clear hK K hb3
  refine held_take (i := 8) (v := v3) rfl (by kernel_rfl) (by kernel_rfl) (by kernel_rfl) (fun _ _ _ h => h) (Or.inl ⟨by rfl, fun w' _ => by kernel_rfl⟩) hHeld ?_
  go_frame
  refine wpAnyH_done (by kernel_rfl) ?_ _
  have B3 := Lib.hid hHeld
  clear hHeld
  go_wp2_with fail
  obtain ⟨A, hA⟩ : ∃ A, A = leB vt 4 ++ putL ni := ⟨_, rfl⟩
  have HAL : Hid (A.length ≤ 13) := by show _ ≤ _; rw [hA, List.length_append, leB_length, putL_length]; have := lenN_bd ni; omega
  have H3' : OwnG base none w1d w3 v3 (([] ++ leB vt 4) ++ putL ni) := H3.out
  rw [List.nil_append, ← hA] at H3'
  have H3 := Lib.hid H3'
  have HA := Lib.hid hA
  clear H3' hA
  go_loopw [3, 4] (fun vb vi wr => TbInv base ni (fun k => A ++ insB (t.ins.take k)) w1 vb vi wr) (fun _ i _ => ni - (intOf i).toNat)
  case atStart => exact ⟨0, _, rfl, by omega, rfl, B3.out, _, _, rfl, by simpa [insB] using H3.out⟩
  case round =>
    clear H3 B3
    obtain ⟨k, vb, rfl, hk, rfl, B, r, w0, rfl, HB⟩ := hrel
    have B := Lib.hid B
    have HB : OwnG base none w0 wr vb (A ++ insB (t.ins.take k)) := HB
    have HB := Lib.hid HB
    have c1 : wr.cell? ⟨w.heap.size, 1, none⟩ = some (.slice si ni ci) := BOX.out wr B.out 1 _ rfl
    by_cases hlt : k < ni
    · have hkx : k < t.ins.length := by have := NI.out; omega
      obtain ⟨b1, o1, hs1, he1⟩ := HTI.out (by omega)
      have g1 := he1 k _ (List.getElem?_eq_getElem hkx)
      obtain ⟨x, hx⟩ : ∃ x, x = t.ins[k] := ⟨_, rfl⟩
      rw [← hx] at g1
      have hgx : t.ins[k]? = some x := by rw [hx]; exact List.getElem?_eq_getElem _
      obtain ⟨hx1, kx, hkx2, hr1⟩ := g1
      obtain ⟨sx, cx, hkv⟩ := hkx2.2
      rw [hs1] at c1
      have p0 : 0 ≤ (k : Int) := by omega
      have q0 : (k : Int) < (ni : Int) := by omega
      have R1 := Lib.hid (range_below (range_below hr1 B0.out) B.out)
      have LX := Lib.hid (inL_length x kx hx1.1)
      have LX' : Hid ((inL x kx).toArray.size = 35) := by show _ = _; rw [List.size_toArray]; exact LX.out
      have ONE : Hid ((inL x kx).toArray.all (·.oneCell') = true) := all_oneCell_toArray (fun u hu => by
        rcases List.mem_append.1 hu with h | h
        · exact ptL_one' _ _ u h
        · rw [hkv] at h
          rcases List.mem_cons.1 h with rfl | h
          · rfl
          · obtain rfl : u = nV x.seq := by simpa using h
            rfl)
      have KW := Lib.hid (hkx2.below B0.out)
      have GX := Lib.hid hgx
      have XH := Lib.hid hx1.1
      have XN := Lib.hid hx1.2.1
      have XS := Lib.hid hx1.2.2
      have HKV := Lib.hid hkv
      have LB1 : Hid ((A ++ insB (t.ins.take k)).length + (inB x).length ≤ 17592186044440) := by
        show _ ≤ _
        have h1 := insB_le hgx
        have h2 := HLI.out
        have h3 := HAL.out
        rw [List.length_append]
        omega
      have LB0 := LB1.out
      rw [inB_length x hx1] at LB0
      have LB1 := Lib.hid LB0
      clear hx hgx he1 hs1 hx1 hkx2 hr1 hkv LB0
      obtain ⟨bs, hbs⟩ : ∃ bs, bs = A ++ insB (t.ins.take k) := ⟨_, rfl⟩
      rw [← hbs] at HB LB1
      obtain ⟨g5, hg5⟩ : ∃ g5, g5 = wr.heap.size := ⟨_, rfl⟩
      obtain ⟨_, f2, f3, f4⟩ := fill_setup (Below.refl wr.heap.size wr) (List.replicate 32 (bV 0) ++ [nV 0, .slice none 0 0, nV 0]).toArray (inL x kx).toArray 53
      go_upto_region 6 with ((with_reducible show wpList _ _ _ _ _ _); first | (refine wpList_load_mid rfl 53 (.tmp 25) rfl b1 (o1 + k * 35) rfl (inL x kx) _ R1.out Tryz.underlying53 rfl (by rw [LX.out]; kernel_rfl) ?_; go_frame) | (refine wpList_store_row rfl 53 (.tmp 5) (.tmp 26) rfl wr.heap.size (inL x kx).toArray rfl rfl 53 _ (heap_alloc_new _ _) (by rw [LX'.out]; kernel_rfl) (by rw [LX'.out]; rfl) ONE.out ?_; go_frame))
      rw [← hg5] at f2 f3 f4 ⊢
      generalize hw5 : World.setRow _ _ _ = w5
      have e5 : World.setRow (wr.alloc (.cells (List.replicate 32 (bV 0) ++ [nV 0, .slice none 0 0, nV 0]).toArray 53)) g5 (inL x kx).toArray = w5 := hw5
      rw [e5] at f2 f4
      rw [hg5] at f4
      have hne : some g5 ≠ vb.ownBlock := fun e => by have := (HB.out.1.lt g5 e.symm).2; omega
      have hlt5 : g5 < w5.heap.size := (Array.getElem?_eq_some_iff.1 f2).1
      have HB5 := Lib.hid (HB.out.keep f4)
      have B5 := Lib.hid (B.out.trans (f4.mono B.out.size))
      have ROW : Hid (∀ w', w5.grownBy w' vb.ownBlock → w'.heap[g5]? = some (.cells (inL x kx).toArray 53 (0, 0))) := fun w' h => by rw [h.block g5 hlt5 hne]; exact f2
      have in5 : ∀ w', w5.grownBy w' vb.ownBlock → ∀ (j : Nat) (u : Value), (inL x kx)[j]? = some u → w'.cell? ⟨g5, j, none⟩ = some u := fun w' h j u hj => by
        rw [cell_of_row _ _ _ _ _ _ (ROW.out w' h), List.getElem?_toArray]
        exact hj
      obtain ⟨kl, hkl⟩ : ∃ kl, kl = x.key.length := ⟨_, rfl⟩
      have X32 : Hid ((inL x kx)[32]? = some (.int .u32 (x.n : Int))) := by show _ = _; rw [inL, List.getElem?_append_left (by simp [ptL, XH.out]), ptL, List.getElem?_append_right (by simp [XH.out])]; simp [XH.out, nV]
      have X33 : Hid ((inL x kx)[33]? = some (.slice sx kl cx)) := by show _ = _; rw [inL, List.getElem?_append_right (by simp [ptL, XH.out])]; simp [ptL, XH.out, HKV.out, hkl]
      have X34 : Hid ((inL x kx)[34]? = some (.int .u32 (x.seq : Int))) := by show _ = _; rw [inL, List.getElem?_append_right (by simp [ptL, XH.out])]; simp [ptL, XH.out, nV]
      have KEY : Hid (∀ w', w5.grownBy w' vb.ownBlock → SrcB w' (.slice sx kl cx) x.key) := fun w' h => by
        have := KW.out.1.below (own_grown B5.out HBS.out B5.out.size HB5.out.1 h)
        rw [HKV.out, ← hkl] at this
        exact this
      have KLB : Hid (kl ≤ 9223372036854775807) := by show _ ≤ _; have := LB1.out; omega
      have hwk : IntKind.u64.wrap (kl : Int) = (kl : Int) := by rw [IntKind.wrap_u64]; have := KLB.out; omega
      have KL := Lib.hid hkl
      rw [← hkl] at LB1
      clear f2 f3 f4 hg5 hw5 e5 R1 c1 hkl
      go_upto_region 7 with ((with_reducible show wpList _ _ _ _ _ _); refine wpList_append_g w5 rfl (.tmp 27) (.tmp 30) 51 rfl base 5 i0 Tryz.underlying51 hi hz0 hz1 hz2 vb _ _ rfl HB5.out.1 (.slice (some ⟨g5, 0, none⟩) 32 32) x.h rfl (src_range (in_hash (range_of_box (ROW.out w5 (grownBy_refl _ _)))) XH.out.symm (by omega) (Nat.le_refl _)) (by have := LB1.out; have := XH.out; simp only [List.length_append] at *; omega) HB5.out.2.2.2 ?_; intro v6 w6 a1 a2 a3; have H6 := Lib.hid ((OwnG.start HB5.out.1 HB5.out.2.2.2).app a1 a2 a3); clear a1 a2 a3; go_frame)
      refine wp_region_held_drew (S := (fun w' => w5.grownBy w' vb.ownBlock)) (by kernel_rfl) (gr_drew H6.out.2.1) (fun hHeld => ?_)
      have H6d := Lib.hid (H6.out.keep (Below.drew (Below.refl w6.heap.size w6)))
      clear H6
      generalize hwd : w6.drew = w6d
      rw [hwd] at H6d hHeld
      clear hwd
      refine held_take (i := 0) (v := v6) rfl (by kernel_rfl) (by kernel_rfl) (by kernel_rfl) (fun _ _ _ h => h) (Or.inl ⟨by rfl, fun w' _ => by kernel_rfl⟩) hHeld ?_
      go_frame
      refine held_take (i := 1) (v := (.pointer (some ⟨g5, 0, none⟩))) rfl (by kernel_rfl) (by kernel_rfl) (by kernel_rfl) (fun _ _ _ h => h) (Or.inl ⟨by rfl, fun w' _ => by kernel_rfl⟩) hHeld ?_
      go_frame
      refine held_take (i := 2) (v := (.pointer (some ⟨g5, 32, none⟩))) rfl (by kernel_rfl) (by kernel_rfl) (by kernel_rfl) (fun _ _ _ h => h) (Or.inl ⟨by rfl, fun w' _ => by kernel_rfl⟩) hHeld ?_
      go_frame
      refine held_take (i := 3) (v := (.int .u32 (x.n : Int))) rfl (by kernel_rfl) (by kernel_rfl) (by kernel_rfl) (fun _ _ _ h => h) (yieldsIf_load_one (by rfl) 23 (.tmp 34) rfl g5 (32) rfl _ _ (fun w' hw' => in5 w' hw' 32 _ X32.out) Tryz.underlying23 rfl) hHeld ?_
      go_frame
      refine held_take (i := 5) (v := (.pointer (some ⟨g5, 33, none⟩))) rfl (by kernel_rfl) (by kernel_rfl) (by kernel_rfl) (fun _ _ _ h => h) (Or.inl ⟨by rfl, fun w' _ => by kernel_rfl⟩) hHeld ?_
      go_frame
      refine held_take (i := 6) (v := (.slice sx kl cx)) rfl (by kernel_rfl) (by kernel_rfl) (by kernel_rfl) (fun _ _ _ h => h) (yieldsIf_load_one (by rfl) 51 (.tmp 37) rfl g5 (33) rfl _ _ (fun w' hw' => in5 w' hw' 33 _ X33.out) Tryz.underlying51 rfl) hHeld ?_
      go_frame
      refine held_take (i := 7) (v := (.int .i64 (kl : Int))) rfl (by kernel_rfl) (by kernel_rfl) (by kernel_rfl) (fun _ _ _ h => h) (Or.inl ⟨by rfl, fun w' _ => by kernel_rfl⟩) hHeld ?_
      go_frame
      refine held_take (i := 8) (v := (.int .u64 (kl : Int))) rfl (by kernel_rfl) (by kernel_rfl) (by kernel_rfl) (fun _ _ _ h => h) (Or.inl ⟨by rfl, fun w' _ => by go_simp⟩) hHeld ?_
      go_frame
      refine wpAnyH_ready (rs := [4]) (by kernel_rfl) (by simp) (held_cons rfl (fun K hK => ?_) AllReadyH.nil)
      go_simp
      refine (rfour_g x.n base _ _ w6d XN.out H6d.out.2.2.2 (by have := LB1.out; have := XH.out; simp only [List.length_append] at *; omega) H6d.out.1).mono ?_
      rintro e w7 ⟨v7, rfl, h7⟩
      have H7 := Lib.hid (H6d.out.trans h7)
      clear hHeld h7 H6d
      go_wp2_with fail
      refine hK.out _ _ H7.out.2.1 (fun hHeld => ?_)
      clear hK K
      refine wpAnyH_ready (rs := [9]) (by kernel_rfl) (by simp) (held_cons rfl (fun K hK => ?_) AllReadyH.nil)
      go_simp
      refine (rput_g kl base _ _ w7 H7.out.2.2.2 (by have := LB1.out; have := XH.out; simp only [List.length_append, leB_length] at *; omega) H7.out.1).mono ?_
      rintro e w8 ⟨v8, rfl, h8⟩
      have H8 := Lib.hid (H7.out.trans h8)
      clear hHeld h8 H7
      go_wp2_with fail
      refine hK.out _ _ H8.out.2.1 (fun hHeld => ?_)
      clear hK K
      refine held_take (i := 10) (v := v8) rfl (by kernel_rfl) (by kernel_rfl) (by kernel_rfl) (fun _ _ _ h => h) (Or.inl ⟨by rfl, fun w' _ => by kernel_rfl⟩) hHeld ?_
      go_frame
      refine wpAnyH_done (by kernel_rfl) ?_ _
      clear hHeld
      go_wp2_with fail

      refine wp_region_held_drew (S := (fun w' => w5.grownBy w' vb.ownBlock)) (by kernel_rfl) (gr_drew H8.out.2.1) (fun hHeld => ?_)
      have H8d := Lib.hid (H8.out.keep (Below.drew (Below.refl w8.heap.size w8)))
      clear H8
      generalize hwd : w8.drew = w8d
      rw [hwd] at H8d hHeld
      clear hwd
      refine held_take (i := 0) (v := v8) rfl (by kernel_rfl) (by kernel_rfl) (by kernel_rfl) (fun _ _ _ h => h) (Or.inl ⟨by rfl, fun w' _ => by kernel_rfl⟩) hHeld ?_
      go_frame
      refine held_take (i := 1) (v := (.pointer (some ⟨g5, 33, none⟩))) rfl (by kernel_rfl) (by kernel_rfl) (by kernel_rfl) (fun _ _ _ h => h) (Or.inl ⟨by rfl, fun w' _ => by kernel_rfl⟩) hHeld ?_
      go_frame
      refine held_take (i := 2) (v := (.slice sx kl cx)) rfl (by kernel_rfl) (by kernel_rfl) (by kernel_rfl) (fun _ _ _ h => h) (yieldsIf_load_one (by rfl) 51 (.tmp 43) rfl g5 (33) rfl _ _ (fun w' hw' => in5 w' hw' 33 _ X33.out) Tryz.underlying51 rfl) hHeld ?_
      go_frame
      refine held_take (i := 4) (v := (.pointer (some ⟨g5, 34, none⟩))) rfl (by kernel_rfl) (by kernel_rfl) (by kernel_rfl) (fun _ _ _ h => h) (Or.inl ⟨by rfl, fun w' _ => by kernel_rfl⟩) hHeld ?_
      go_frame
      refine held_take (i := 5) (v := (.int .u32 (x.seq : Int))) rfl (by kernel_rfl) (by kernel_rfl) (by kernel_rfl) (fun _ _ _ h => h) (yieldsIf_load_one (by rfl) 23 (.tmp 46) rfl g5 (34) rfl _ _ (fun w' hw' => in5 w' hw' 34 _ X34.out) Tryz.underlying23 rfl) hHeld ?_
      go_frame
      refine wpAnyH_ready (rs := [3]) (by kernel_rfl) (by simp) (held_cons rfl (fun K hK => ?_) AllReadyH.nil)
      rw [if_pos (by rfl)]
      refine wp_append_g w8d (.tmp 42) (.tmp 44) 51 rfl base 5 i0 Tryz.underlying51 hi hz0 hz1 hz2 v8 _ _ rfl H8d.out.1 (.slice sx kl cx) x.key rfl (KEY.out w8d hHeld) (by have := LB1.out; have := XH.out; have := KL.out; have := lenN_bd kl; simp only [List.length_append, leB_length, putL_length] at *; omega) H8d.out.2.2.2 ?_
      intro v9 w9 a1 a2 a3
      have H9 := Lib.hid (H8d.out.app a1 a2 a3)
      clear a1 a2 a3 hHeld H8d
      go_frame
      refine hK.out _ _ H9.out.2.1 (fun hHeld => ?_)
      clear hK K
      refine wpAnyH_ready (rs := [6]) (by kernel_rfl) (by simp) (held_cons rfl (fun K hK => ?_) AllReadyH.nil)
      go_simp
      refine (rfour_g x.seq base _ _ w9 XS.out H9.out.2.2.2 (by have := LB1.out; have := XH.out; have := KL.out; have := lenN_bd kl; simp only [List.length_append, leB_length, putL_length] at *; omega) H9.out.1).mono ?_
      rintro e w10 ⟨v10, rfl, h10⟩
      have H10 := Lib.hid (H9.out.trans h10)
      clear hHeld h10 H9
      go_wp2_with fail
      refine hK.out _ _ H10.out.2.1 (fun hHeld => ?_)
      clear hK K
      refine held_take (i := 7) (v := v10) rfl (by kernel_rfl) (by kernel_rfl) (by kernel_rfl) (fun _ _ _ h => h) (Or.inl ⟨by rfl, fun w' _ => by kernel_rfl⟩) hHeld ?_
      go_frame
      refine wpAnyH_done (by kernel_rfl) ?_ _
      clear hHeld
      go_wp2_with fail

      have BE := Lib.hid (own_grown B5.out HBS.out B5.out.size HB5.out.1 H10.out.2.1)
      have HE := Lib.hid (HB5.out.trans H10.out)
      clear H10 KEY ROW in5 hwk p0 q0
      go_roundw
      case rel =>
        refine ⟨k + 1, v10, rfl, by omega, by go_num, BE.out, none, w0, rfl, ?_⟩
        have h := HE.out
        rw [hbs, KL.out] at h
        show OwnG base none w0 w10 v10 (A ++ insB (t.ins.take (k + 1)))
        rw [insB_succ GX.out, inB]
        simpa only [List.append_assoc] using h
      case measure => simp [intOf]; omega
    · have hkn : k = ni := by omega
      have hge : ¬ (k : Int) < (ni : Int) := by omega
      have c2 : wr.cell? ⟨w.heap.size, 2, none⟩ = some (.slice so no co) := BOX.out wr B.out 2 _ rfl
      have HB2 : OwnG base none w0 wr vb (A ++ insB t.ins) := by
        have h := HB.out
        rw [hkn, NI.out, List.take_length] at h
        exact h
      have HB := Lib.hid HB2
      obtain ⟨A1, hA1⟩ : ∃ A1, A1 = A ++ insB t.ins := ⟨_, rfl⟩
      have HA1L : Hid (A1.length ≤ 17592186044430) := by show _ ≤ _; rw [hA1, List.length_append]; have := HAL.out; have := HLI.out; omega
      rw [← hA1] at HB
      have HA1 := Lib.hid hA1
      clear hkn HB2 hA1
      go_wp2_with fail
      refine (rput_g no base A1 vb wr HB.out.2.2.2 (by have := HA1L.out; omega) HB.out.1).mono ?_
      rintro e w4 ⟨v4, rfl, h4⟩
      have H4 := Lib.hid (HB.out.trans h4)
      have B4 := Lib.hid (own_grown B.out HBS.out B.out.size HB.out.1 h4.2.1)
      clear h4 HB B c1 c2 hge hlt
      obtain ⟨A2, hA2⟩ : ∃ A2, A2 = A1 ++ putL no := ⟨_, rfl⟩
      have HA2L : Hid (A2.length ≤ 17592186044440) := by show _ ≤ _; rw [hA2, List.length_append, putL_length]; have := HA1L.out; have := lenN_bd no; omega
      rw [← hA2] at H4
      have HA2 := Lib.hid hA2
      clear hA2
      go_wp2_with fail
      go_loopw [3, 6] (fun vb vi wr => TbInv base no (fun k => A2 ++ outsB (t.outs.take k)) w1 vb vi wr) (fun _ i _ => no - (intOf i).toNat)
      case atStart => exact ⟨0, _, rfl, by omega, rfl, B4.out, _, _, rfl, by simpa [outsB] using H4.out⟩
      case round =>
        clear H4 B4
        obtain ⟨k, vb, rfl, hk, rfl, B, r, w0, rfl, HB⟩ := hrel
        have B := Lib.hid B
        have HB : OwnG base none w0 wr vb (A2 ++ outsB (t.outs.take k)) := HB
        have HB := Lib.hid HB
        have c2 : wr.cell? ⟨w.heap.size, 2, none⟩ = some (.slice so no co) := BOX.out wr B.out 2 _ rfl
        by_cases hlt : k < no
        · have hkx : k < t.outs.length := by have := NO.out; omega
          obtain ⟨b2, o2, hs2, he2⟩ := HTO.out (by omega)
          have g2 := he2 k _ (List.getElem?_eq_getElem hkx)
          obtain ⟨y, hy⟩ : ∃ y, y = t.outs[k] := ⟨_, rfl⟩
          rw [← hy] at g2
          have hgy : t.outs[k]? = some y := by rw [hy]; exact List.getElem?_eq_getElem _
          obtain ⟨hy1, hr2⟩ := g2
          have Y2 := Lib.hid (range_below hr2 B0.out)
          have YL := Lib.hid hy1.1
          have GY := Lib.hid hgy
          have HS2 := Lib.hid hs2
          have p0 : 0 ≤ (k : Int) := by omega
          have q0 : (k : Int) < (no : Int) := by omega
          have LB2 : Hid ((A2 ++ outsB (t.outs.take k)).length + 40 ≤ 35184372088860) := by
            show _ ≤ _
            have h1 := outsB_le hgy
            have h2 := HLO.out
            have h3 := HA2L.out
            rw [outB_length y hy1] at h1
            rw [List.length_append]
            omega
          clear hy hgy he2 hy1 hr2 hs2
          obtain ⟨bs, hbs⟩ : ∃ bs, bs = A2 ++ outsB (t.outs.take k) := ⟨_, rfl⟩
          rw [← hbs] at HB LB2
          go_wp2_with fail
          clear c2
          refine wp_region_held_drew (S := (fun w' => Below w1.heap.size w1 w')) (by kernel_rfl) (Below.drew B.out) (fun hHeld => ?_)
          have HBd := Lib.hid (HB.out.keep (Below.drew (Below.refl wr.heap.size wr)))
          generalize hwd : wr.drew = wrd
          rw [hwd] at HBd hHeld
          clear hwd
          refine held_take (i := 0) (v := vb) rfl (by kernel_rfl) (by kernel_rfl) (by kernel_rfl) (fun _ _ _ h => h) (Or.inl ⟨by rfl, fun w' _ => by kernel_rfl⟩) hHeld ?_
          go_frame
          refine held_take (i := 1) (v := (.pointer (some ⟨w.heap.size, 2, none⟩))) rfl (by kernel_rfl) (by kernel_rfl) (by kernel_rfl) (fun _ _ _ h => h) (Or.inl ⟨by rfl, fun w' _ => by kernel_rfl⟩) hHeld ?_
          go_frame
          refine held_take (i := 2) (v := (.slice (some ⟨b2, o2, none⟩) no co)) rfl (by kernel_rfl) (by kernel_rfl) (by kernel_rfl) (fun _ _ _ h => h) (yieldsIf_load_one (by rfl) 25 (.tmp 63) rfl w.heap.size (2) rfl _ _ (fun w' hw' => by rw [BOX.out w' hw' 2 _ rfl, HS2.out]) Tryz.underlying25 rfl) hHeld ?_
          go_frame
          refine held_take (i := 3) (v := (.int .i64 (k : Int))) rfl (by kernel_rfl) (by kernel_rfl) (by kernel_rfl) (fun _ _ _ h => h) (Or.inl ⟨by rfl, fun w' _ => by kernel_rfl⟩) hHeld ?_
          go_frame
          refine held_take (i := 4) (v := (.pointer (some ⟨b2, o2 + k * 33, none⟩))) rfl (by kernel_rfl) (by kernel_rfl) (by kernel_rfl) (fun _ _ _ h => h) (Or.inl ⟨by rfl, fun w' _ => by go_simp⟩) hHeld ?_
          go_frame
          refine held_take (i := 5) (v := (.pointer (some ⟨b2, o2 + k * 33, none⟩))) rfl (by kernel_rfl) (by kernel_rfl) (by kernel_rfl) (fun _ _ _ h => h) (Or.inl ⟨by rfl, fun w' _ => by kernel_rfl⟩) hHeld ?_
          go_frame
          refine held_take (i := 6) (v := (.int .u64 (y.val : Int))) rfl (by kernel_rfl) (by kernel_rfl) (by kernel_rfl) (fun _ _ _ h => h) (yieldsIf_load_one (by rfl) 35 (.tmp 67) rfl b2 (o2 + k * 33) rfl _ _ (fun w' hw' => out_val (range_below Y2.out hw')) Tryz.underlying35 rfl) hHeld ?_
          go_frame
          refine held_take (i := 8) (v := (.pointer (some ⟨w.heap.size, 2, none⟩))) rfl (by kernel_rfl) (by kernel_rfl) (by kernel_rfl) (fun _ _ _ h => h) (Or.inl ⟨by rfl, fun w' _ => by kernel_rfl⟩) hHeld ?_
          go_frame
          refine held_take (i := 9) (v := (.slice (some ⟨b2, o2, none⟩) no co)) rfl (by kernel_rfl) (by kernel_rfl) (by kernel_rfl) (fun _ _ _ h => h) (yieldsIf_load_one (by rfl) 25 (.tmp 70) rfl w.heap.size (2) rfl _ _ (fun w' hw' => by rw [BOX.out w' hw' 2 _ rfl, HS2.out]) Tryz.underlying25 rfl) hHeld ?_
          go_frame
          refine held_take (i := 10) (v := (.int .i64 (k : Int))) rfl (by kernel_rfl) (by kernel_rfl) (by kernel_rfl) (fun _ _ _ h => h) (Or.inl ⟨by rfl, fun w' _ => by kernel_rfl⟩) hHeld ?_
          go_frame
          refine held_take (i := 11) (v := (.pointer (some ⟨b2, o2 + k * 33, none⟩))) rfl (by kernel_rfl) (by kernel_rfl) (by kernel_rfl) (fun _ _ _ h => h) (Or.inl ⟨by rfl, fun w' _ => by go_simp⟩) hHeld ?_
          go_frame
          refine held_take (i := 12) (v := (.pointer (some ⟨b2, o2 + k * 33 + 1, none⟩))) rfl (by kernel_rfl) (by kernel_rfl) (by kernel_rfl) (fun _ _ _ h => h) (Or.inl ⟨by rfl, fun w' _ => by kernel_rfl⟩) hHeld ?_
          go_frame
          refine held_take (i := 13) (v := (.slice (some ⟨b2, o2 + k * 33 + 1, none⟩) 32 32)) rfl (by kernel_rfl) (by kernel_rfl) (by kernel_rfl) (fun _ _ _ h => h) (Or.inl ⟨by rfl, fun w' _ => by kernel_rfl⟩) hHeld ?_
          go_frame
          refine wpAnyH_ready (rs := [7]) (by kernel_rfl) (by simp) (held_cons rfl (fun K hK => ?_) AllReadyH.nil)
          go_simp
          refine (reight_g y.val base _ _ wrd HBd.out.2.2.2 (by have := LB2.out; omega) HBd.out.1).mono ?_
          rintro e w7 ⟨v7, rfl, h7⟩
          have H7 := Lib.hid (HBd.out.trans h7)
          have hb7 := hHeld.trans ((h7.below (B := w1.heap.size) (fun k hk => by rcases HBd.out.1.lt k hk with ⟨q, _⟩; omega) hHeld.size))
          clear hHeld h7 HBd
          go_wp2_with fail
          refine hK.out _ _ hb7 (fun hHeld => ?_)
          clear hK K hb7
          refine wpAnyH_ready (rs := [14]) (by kernel_rfl) (by simp) (held_cons rfl (fun K hK => ?_) AllReadyH.nil)
          rw [if_pos (by rfl)]
          refine wp_append_g w7 (.tmp 69) (.tmp 75) 51 rfl base 5 i0 Tryz.underlying51 hi hz0 hz1 hz2 v7 _ _ rfl H7.out.1 (.slice (some ⟨b2, o2 + k * 33 + 1, none⟩) 32 32) y.lock rfl (src_range (out_lock (range_below Y2.out hHeld)) YL.out.symm (by omega) (Nat.le_refl _)) (by have := LB2.out; have := YL.out; simp only [List.length_append, leB_length] at *; omega) H7.out.2.2.2 ?_
          intro v9 w9 a1 a2 a3
          have H9 := Lib.hid (H7.out.app a1 a2 a3)
          have hb9 := own_grown hHeld HBS.out hHeld.size H7.out.1 a2
          clear a1 a2 a3 hHeld H7
          go_frame
          refine hK.out _ _ hb9 (fun hHeld => ?_)
          clear hK K hb9
          refine held_take (i := 15) (v := v9) rfl (by kernel_rfl) (by kernel_rfl) (by kernel_rfl) (fun _ _ _ h => h) (Or.inl ⟨by rfl, fun w' _ => by kernel_rfl⟩) hHeld ?_
          go_frame
          refine wpAnyH_done (by kernel_rfl) ?_ _
          have B9 := Lib.hid hHeld
          clear hHeld
          go_wp2_with fail

          go_roundw
          case rel =>
            refine ⟨k + 1, v9, rfl, by omega, by go_num, B9.out, none, w0, rfl, ?_⟩
            have h := H9.out
            rw [hbs] at h
            show OwnG base none w0 w9 v9 (A2 ++ outsB (t.outs.take (k + 1)))
            rw [outsB_succ GY.out, outB]
            simpa only [List.append_assoc] using h
          case measure => simp [intOf]; omega
        · have hkn : k = no := by omega
          have hge : ¬ (k : Int) < (no : Int) := by omega
          have c3 : wr.cell? ⟨w.heap.size, 3, none⟩ = some (.int .u32 (tt : Int)) := BOX.out wr B.out 3 _ rfl
          have HB2 : OwnG base none w0 wr vb (A2 ++ outsB t.outs) := by
            have h := HB.out
            rw [hkn, NO.out, List.take_length] at h
            exact h
          have HB := Lib.hid HB2
          clear hkn HB2
          go_wp2_with fail
          refine (rfour_g tt base (A2 ++ outsB t.outs) vb wr TTB.out HB.out.2.2.2 (by rw [List.length_append]; have := HA2L.out; have := HLO.out; omega) HB.out.1).mono ?_
          rintro e w5 ⟨v5, rfl, h5⟩
          have H5 := Lib.hid h5.1
          have B5 := Lib.hid (own_grown B.out HBS.out B.out.size HB.out.1 h5.2.1)
          clear h5 HB B c2 c3 hge hlt
          go_wp2_with fail
          go_ret
          refine ⟨_, rfl, ?_, B0.out.trans (B5.out.mono B0.out.size)⟩
          have e : (A2 ++ outsB t.outs) ++ leB tt 4 = txB t := by rw [HA2.out, HA1.out, HA.out, txB, VT.out, TT.out, NI.out, NO.out]
          have h := H5.out
          rw [e] at h
          exact own_base h hbw
end Go.Proofs.YtckkcpplanfmhaaGreatDoor.Sha

/-
  The statements' own Values lists a transaction's amounts; their own Size counts its bytes. Nothing that was there turns. Conditions: a transaction that lies in memory; fewer than 2^44 bytes.
-/
namespace Go.Proofs.YtckkcpplanfmhaaGreatDoor.Sha
open Go Go.RowKit
theorem info_u64v : (Tryz.prog.info? 35).map (fun i => (i.zero, i.size, i.bytes)) = some (some (.int .u64 0), 1, 8) := by kernel_rfl
/-- An own row of numbers of 64 bits reads as them. -/
theorem srcU_own {w : World} {base n : Nat} {v : Value} {l : List Nat} (h : w.ownsRow base 35 1 v n (l.map uV)) : SrcU w v l := by
  have hl : n = l.length := by have := h.1; rw [List.length_map] at this; omega
  by_cases hn : 0 < n
  · rcases h.2 with ⟨_, h0⟩ | ⟨g, cap, cur, rfl, hb, hg, hc, _⟩
    · omega
    · refine .inr ⟨by omega, g, 0, cap, by rw [hl], by omega, fun j hj => ?_⟩
      rw [Nat.zero_add, h.cellAt j (by omega), List.getElem?_map, List.getElem?_eq_getElem hj]
      simp [uV, List.getD, List.getElem?_eq_getElem hj]
  · have e : l = [] := List.eq_nil_of_length_eq_zero (by omega)
    rcases h.2 with ⟨rfl, _⟩ | ⟨g, cap, cur, rfl, _⟩
    · exact .inl ⟨_, _, rfl, e⟩
    · exact .inl ⟨_, _, by rw [show n = 0 by omega], e⟩
def VlInv (base n : Nat) (t : TTx) (w1 : World) (vb vi : Value) (wr : World) : Prop :=
  ∃ (k : Nat) (vq : Value), vq = vb ∧ k ≤ n ∧ vi = .int .i64 k ∧ Below w1.heap.size w1 wr ∧ wr.ownsRow base 35 1 vq k (((t.outs.take k).map (·.val)).map uV)
set_option maxHeartbeats 1000000 in
set_option maxRecDepth 100000 in
theorem vals_any (t : TTx) (v : Value) (w : World) (h1 : TxAt w v t) (hno : t.outs.length ≤ 1000000) :
    Calls Tryz.prog 78 #[v] w fun e w' => ∃ v', e = .returned v' ∧ SrcU w' v' (t.outs.map (·.val)) ∧ Below w.heap.size w w' := by
  obtain ⟨ht0, iv, ov, rfl, hti, hto⟩ := h1
  obtain ⟨si, ci, rfl, hci, hti⟩ := hti
  obtain ⟨so, co, rfl, hco, hto⟩ := hto
  obtain ⟨i0, hi, hz0, hz1, hz2⟩ := info_parts info_u64v
  have HTO := Lib.hid hto
  obtain ⟨ni, hn1⟩ : ∃ ni, ni = t.ins.length := ⟨_, rfl⟩
  obtain ⟨no, hn2⟩ : ∃ no, no = t.outs.length := ⟨_, rfl⟩
  obtain ⟨vt, hvt⟩ : ∃ vt, vt = t.ver := ⟨_, rfl⟩
  obtain ⟨tt, htt⟩ : ∃ tt, tt = t.time := ⟨_, rfl⟩
  rw [← hn2] at hno
  have NO := Lib.hid hn2
  simp only [txL, ← hn1, ← hn2, ← hvt, ← htt]
  clear hn1 hn2 hci hco hvt htt ht0 hti hto
  go_enter Tryz.func78, Tryz.ntmps78
  go_upto_region 1 with fail
  have F := Lib.hid (heap_alloc_new w (.cells [nV vt, .slice si ni ci, .slice so no co, nV tt].toArray 27 (0, 0)))
  have B0 := Lib.hid ((Below.refl w.heap.size w).alloc (Nat.le_refl _) (.cells [nV vt, .slice si ni ci, .slice so no co, nV tt].toArray 27 (0, 0)))
  have hz1' : (w.alloc (.cells [nV vt, .slice si ni ci, .slice so no co, nV tt].toArray 27 (0, 0))).heap.size = w.heap.size + 1 := by simp
  generalize hw1 : World.alloc _ _ = w1
  have e1 : w.alloc (.cells [nV vt, .slice si ni ci, .slice so no co, nV tt].toArray 27 (0, 0)) = w1 := hw1
  rw [e1] at F B0 hz1'
  clear hw1 e1
  obtain ⟨base, hbase⟩ : ∃ base, base = w1.heap.size := ⟨_, rfl⟩
  have HBS : Hid (w1.heap.size ≤ base) := by rw [hbase]; exact Nat.le_refl _
  have BOX : Hid (∀ w', Below w1.heap.size w1 w' → ∀ j v, [nV vt, .slice si ni ci, .slice so no co, nV tt][j]? = some v → w'.cell? ⟨w.heap.size, j, none⟩ = some v) := fun w' hw' j v hj => by
    rw [cell_of_row _ _ _ _ _ _ (row_below F.out hw'), List.getElem?_toArray]
    exact hj
  clear hz1'
  go_wp2_with fail
  go_loopw [3, 4] (fun vb vi wr => VlInv base no t w1 vb vi wr) (fun _ i _ => no - (intOf i).toNat)
  case atStart => exact ⟨0, _, rfl, by omega, rfl, Below.refl _ _, World.ownsRow_nil _ _ _ _⟩
  case round =>
    obtain ⟨k, vb, rfl, hk, rfl, B, HB⟩ := hrel
    have B := Lib.hid B
    have HB := Lib.hid HB
    have c2 : wr.cell? ⟨w.heap.size, 2, none⟩ = some (.slice so no co) := BOX.out wr B.out 2 _ rfl
    by_cases hlt : k < no
    · have hkx : k < t.outs.length := by have := NO.out; omega
      obtain ⟨b2, o2, hs2, he2⟩ := HTO.out (by omega)
      have g2 := he2 k _ (List.getElem?_eq_getElem hkx)
      obtain ⟨y, hy⟩ : ∃ y, y = t.outs[k] := ⟨_, rfl⟩
      rw [← hy] at g2
      have hgy : t.outs[k]? = some y := by rw [hy]; exact List.getElem?_eq_getElem _
      have cv : wr.cell? ⟨b2, o2 + k * 33, none⟩ = some (.int .u64 (y.val : Int)) := out_val (range_below (range_below g2.2 B0.out) B.out)
      have GY := Lib.hid hgy
      have p0 : 0 ≤ (k : Int) := by omega
      have q0 : (k : Int) < (no : Int) := by omega
      rw [hs2] at c2
      clear hy hgy he2 g2 hs2
      go_wp2_with (at_builtin; refine wpList_append_own _ rfl _ _ 148 rfl base 35 i0 (.int .u64 0) 1 8 Tryz.underlying148 hi hz0 hz1 hz2 rfl (by decide) vb k _ rfl (HB.out.alloc _) ⟨wr.heap.size, 0, none⟩ 1 1 [.int .u64 (y.val : Int)] rfl rfl (cell_one_new _ _ _) (fun u hu => by obtain rfl := List.mem_singleton.1 hu; rfl) (by unfold maxLen; omega) (by omega) (by have := B.out.size; simp; omega) ?_; intro v2 w3 ho3 hg3 _; have H3 := Lib.hid ho3; have B3 := Lib.hid (own_grown (B.out.alloc B.out.size _) HBS.out (by have := B.out.size; simp; omega) (HB.out.alloc _) hg3); clear ho3 hg3; go_frame)
      go_roundw
      case rel =>
        refine ⟨k + 1, v2, rfl, by omega, by go_num, B3.out, ?_⟩
        have e : (t.outs.take (k + 1)).map (·.val) = (t.outs.take k).map (·.val) ++ [y.val] := by
          have hk2 := (List.getElem?_eq_some_iff.1 GY.out)
          rw [List.take_succ_eq_append_getElem hk2.1, hk2.2, List.map_append]
          rfl
        rw [e, List.map_append]
        exact H3.out
      case measure => simp [intOf]; omega
    · have hkn : k = no := by omega
      have hge : ¬ (k : Int) < (no : Int) := by omega
      have H2 : wr.ownsRow base 35 1 vb no ((t.outs.map (·.val)).map uV) := by
        have h := HB.out
        rw [hkn, NO.out, List.take_length, ← NO.out] at h
        exact h
      have H2 := Lib.hid H2
      clear hkn
      go_wp2_with fail
      go_ret
      exact ⟨_, rfl, srcU_own H2.out, B0.out.trans (B.out.mono B0.out.size)⟩
end Go.Proofs.YtckkcpplanfmhaaGreatDoor.Sha

/-
  The place that is none, spend.Null and the statements' own, is 32 bytes of 0 and the number 0xffffffff; IsNull tells it. Nothing that was there turns. Condition: a digest of 32 bytes.
-/
namespace Go.Proofs.YtckkcpplanfmhaaGreatDoor.Sha
open Go Go.RowKit
set_option maxRecDepth 100000 in
theorem rnull_any (w : World) :
    Calls Tryz.prog 47 #[] w fun e w' => e = .returned (.agg nullL.toArray) ∧ Below w.heap.size w w' := by
  go_enter Tryz.func47, Tryz.ntmps47
  go_wp2_with ((with_reducible show wpList _ _ _ _ _ _); first | (refine wpList_buildTo rfl 50 _ rfl _ rfl nullL.toArray (by kernel_rfl) ?_; go_frame) | (refine wpList_store_row rfl 50 (.tmp 0) (.tmp 1) rfl w.heap.size nullL.toArray rfl rfl 50 _ (heap_alloc_new _ _) (by kernel_rfl) (by kernel_rfl) (ptL_one _ _) ?_; go_frame))
  refine bodyPost_ret (results_cell_row rfl _ _ w.heap.size 50 nullL.toArray (0, 0) _ rfl (setRow_heap _ _ _ _ _ _ (heap_alloc_new _ _)) Tryz.underlying50 rfl (by kernel_rfl)) rfl ⟨rfl, below_setRow ((Below.refl _ _).alloc (Nat.le_refl _) _) (Nat.le_refl _) _⟩
end Go.Proofs.YtckkcpplanfmhaaGreatDoor.Sha
