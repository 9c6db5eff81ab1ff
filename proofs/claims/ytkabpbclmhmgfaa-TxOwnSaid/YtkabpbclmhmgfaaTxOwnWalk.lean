/-
  The statement on a copy of one's own answers true: what is done to the one copy stands in no other, nor in the first. Condition: the transaction lies in memory.
-/
import Derived.Test.YtkabpbclmhmgfaaTxCloneW
import Derived.Test.YtkabpbclmhmgfaaTxLight
import Derived.Test.YtkabpbclmhmgfaaTxFirst
import Derived.Test.YtkabpbclmhmgfaaTxSame2
import Derived.Test.YtkabpbclmhmgfaaHeld
namespace Go.Proofs.Ytkabpbclmhmgfaa.Sha
open Go Go.RowKit

theorem wrap_u32_1 (n : Nat) : IntKind.u32.wrap ((n : Int) + 1) = (((n + 1) % 4294967296 : Nat) : Int) := by
  rw [IntKind.wrap_u32']
  omega
theorem wrap_u64_1 (n : Nat) : IntKind.u64.wrap ((n : Int) + 1) = (((n + 1) % 18446744073709551616 : Nat) : Int) := by
  rw [IntKind.wrap_u64]
  omega
theorem wrap_u8_1 (x : UInt8) : IntKind.u8.wrap (bv x + 1) = bv (UInt8.ofNat (x.toNat + 1)) := by
  rw [← bv_of]
  congr 1
theorem wpList_store_own {P : Program} {ops : Array Oper} {rest : List Oper} {op : Oper} {a : Act} {w : World} {Q : Exit → Act → World → Prop} (hgd : op.guard = none) (ty : TypeId) (x y : Operand) (ho : op.op = .store ty x y)
    (g j base size n cap : Nat) (e : TypeId) (xs : List Value) (v : Value) (hx : a.eval x = .pointer (some ⟨g, j, none⟩)) (hy : a.eval y = v) (h1 : v.oneCell' = true) (hi : (P.info? ty).map (·.size) = some 1)
    (hown : w.ownsRow base e size (.slice (some ⟨g, 0, none⟩) n cap) n xs) (hj : j < n * size)
    (h : ∀ w', w'.ownsRow base e size (.slice (some ⟨g, 0, none⟩) n cap) n (xs.set j v) → w.grownBy w' (some g) → wpList P ops Q rest (a.put op.dst undef) w') : wpList P ops Q (op :: rest) a w :=
  wpList_plain hgd fun _ hK => wp_store_own ty x y ho g j base size n cap e xs v hx hy h1 hi hown hj (fun w' a1 a2 => hK _ _ (h w' a1 a2))
theorem own_shape0 {w : World} {base size n : Nat} {e : TypeId} {v : Value} {xs : List Value} (h : w.ownsRow base e size v n xs) (hn : 0 < n) : ∃ g cap, v = .slice (some ⟨g, 0, none⟩) n cap ∧ v.ownBlock = some g := by
  rcases h.2 with ⟨_, h0⟩ | ⟨g, cap, _, e, _⟩
  · omega
  · exact ⟨g, cap, e, by rw [e]; rfl⟩
theorem tx_ones (t : TTx) {iv ov : Value} (h1 : iv.oneCell' = true) (h2 : ov.oneCell' = true) : (txL t iv ov).toArray.all (·.oneCell') = true := by
  rw [Array.all_eq_true_iff_forall_mem]
  intro u hu
  simp only [txL, List.mem_toArray, List.mem_cons, List.not_mem_nil, or_false] at hu
  rcases hu with rfl | rfl | rfl | rfl
  · rfl
  · exact h1
  · exact h2
  · rfl
/-- A copy's parts, of which the first input, the first output and the first key may be written. -/
structure CSt (base base2 base3 : Nat) (w : World) (iv ov kv0 : Value) (x0 : TIn) (xs : List TIn) (y0 : TOut) (ys : List TOut) (ks : List Value) : Prop where
  ins : InsOwn base w iv (x0 :: xs) (kv0 :: ks)
  outs : OutsOwn base3 w ov (y0 :: ys)
  low : InsLow base3 iv (kv0 :: ks)
  key : 0 < x0.key.length → w.ownsRow base2 5 1 kv0 x0.key.length (x0.key.map bV)
  lo : ∀ g, iv.ownBlock = some g → g < base2
  ap : ∀ (i : Nat) kv, ks[i]? = some kv → ∀ g, kv0.ownBlock = some g → Off kv (some g)
theorem CSt.of {base base2 base3 : Nat} {w : World} {iv ov kv0 : Value} {t : TTx} {x0 : TIn} {xs : List TIn} {y0 : TOut} {ys : List TOut} {ks : List Value} (h : CloneAt base base2 base3 w iv ov t (kv0 :: ks)) (hi : t.ins = x0 :: xs) (ho : t.outs = y0 :: ys) : CSt base base2 base3 w iv ov kv0 x0 xs y0 ys ks := by
  have h1 := h.1
  rw [hi] at h1
  have h2 := h.2.1
  rw [ho] at h2
  exact ⟨h1.own, h2, h.2.2.2, fun _ => h1.2.2.2.2.2.1 0 x0 kv0 rfl rfl, h1.2.2.2.2.1, fun i kv hk => h1.2.2.2.2.2.2 0 (i + 1) kv0 kv (by omega) rfl hk⟩
section
variable {base base2 base3 : Nat} {w w' : World} {iv ov kv0 : Value} {x0 : TIn} {xs : List TIn} {y0 : TOut} {ys : List TOut} {ks : List Value}
theorem CSt.keep (h : CSt base base2 base3 w iv ov kv0 x0 xs y0 ys ks) (hb : Below w.heap.size w w') : CSt base base2 base3 w' iv ov kv0 x0 xs y0 ys ks :=
  ⟨h.ins.keep hb, h.outs.keep hb, h.low, fun h0 => own_kept (h.key h0) hb, h.lo, h.ap⟩
theorem CSt.keyCell (h : CSt base base2 base3 w iv ov kv0 x0 xs y0 ys ks) {g cap : Nat} (hv : iv = .slice (some ⟨g, 0, none⟩) (xs.length + 1) cap) : w.cell? ⟨g, 33, none⟩ = some kv0 := by
  have h1 := h.ins.2.1
  have e := (h.ins.2.2.1 x0 List.mem_cons_self).1
  rw [hv] at h1
  have h2 := h1.cellAt 33 (by omega)
  rw [h2, show (33 : Nat) = 0 * 35 + 33 by omega, insL_get (x0 :: xs) (kv0 :: ks) 0 x0 kv0 h.ins.2.2.1 rfl rfl 33 (by omega), inL, List.getElem?_append_right (by simp [ptL, e])]
  simp [ptL, e]
theorem CSt.seqCell (h : CSt base base2 base3 w iv ov kv0 x0 xs y0 ys ks) {g cap : Nat} (hv : iv = .slice (some ⟨g, 0, none⟩) (xs.length + 1) cap) : w.cell? ⟨g, 34, none⟩ = some (nV x0.seq) := by
  have h1 := h.ins.2.1
  have e := (h.ins.2.2.1 x0 List.mem_cons_self).1
  rw [hv] at h1
  have h2 := h1.cellAt 34 (by omega)
  rw [h2, show (34 : Nat) = 0 * 35 + 34 by omega, insL_get (x0 :: xs) (kv0 :: ks) 0 x0 kv0 h.ins.2.2.1 rfl rfl 34 (by omega), inL, List.getElem?_append_right (by simp [ptL, e])]
  simp [ptL, e]
theorem CSt.valCell (h : CSt base base2 base3 w iv ov kv0 x0 xs y0 ys ks) {g cap : Nat} (hv : ov = .slice (some ⟨g, 0, none⟩) (ys.length + 1) cap) : w.cell? ⟨g, 0, none⟩ = some (uV y0.val) := by
  have h1 := h.outs.1
  rw [hv] at h1
  have h2 := h1.cellAt 0 (by omega)
  rw [h2]
  rfl
theorem CSt.byteCell {b : UInt8} {bs : List UInt8} {g cap : Nat} (h : CSt base base2 base3 w iv ov (.slice (some ⟨g, 0, none⟩) (bs.length + 1) cap) x0 xs y0 ys ks) (hk : x0.key = b :: bs) : w.cell? ⟨g, 0, none⟩ = some (bV b) := by
  have h1 := h.key (by rw [hk]; simp)
  rw [hk] at h1
  have h2 := h1.cellAt 0 (by simp)
  rw [h2]
  rfl
/-- The first input's sequence is written. -/
theorem CSt.seq (h : CSt base base2 base3 w iv ov kv0 x0 xs y0 ys ks) {g s : Nat} (hv : iv.ownBlock = some g) (hs : s ≤ 4294967295) (h1 : w'.ownsRow base 36 35 iv (xs.length + 1) ((insL (x0 :: xs) (kv0 :: ks)).set 34 (nV s))) (hg : w.grownBy w' (some g)) :
    CSt base base2 base3 w' iv ov kv0 ⟨x0.h, x0.n, x0.key, s⟩ xs y0 ys ks := by
  have e := h.ins.2.2.1 x0 List.mem_cons_self
  have gl : g < base3 := by
    rcases Nat.lt_or_ge g base3 with h2 | h2
    · exact h2
    · exact absurd hv (h.low g h2).1
  refine ⟨⟨h.ins.1, ?_, ?_, fun i x kv hx hk => ?_⟩, h.outs.other hg gl, h.low, fun h0 => (h.key h0).kept hg (own_far (h.key h0) (h.lo g hv)), h.lo, h.ap⟩
  · have e2 : (insL (x0 :: xs) (kv0 :: ks)).set 34 (nV s) = insL (⟨x0.h, x0.n, x0.key, s⟩ :: xs) (kv0 :: ks) := by
      rw [insL, insL, List.set_append_left _ _ (by rw [inL_length x0 kv0 e.1]; omega)]
      congr 1
      rw [inL, inL, List.set_append_right _ _ (by simp [ptL, e.1])]
      simp [ptL, e.1]
    rw [e2] at h1
    exact h1
  · intro z hz
    rcases List.mem_cons.1 hz with rfl | hz
    · exact ⟨e.1, e.2.1, hs⟩
    · exact h.ins.2.2.1 z (List.mem_cons_of_mem _ hz)
  · cases i with
    | zero =>
      cases hx
      have h3 := h.ins.2.2.2 0 x0 kv rfl hk
      exact ⟨h3.1.off (by rw [← hv]; exact h3.2.2) hg, h3.2⟩
    | succ i =>
      have h3 := h.ins.2.2.2 (i + 1) x kv hx hk
      exact ⟨h3.1.off (by rw [← hv]; exact h3.2.2) hg, h3.2⟩
/-- The first output's value is written. -/
theorem CSt.val (h : CSt base base2 base3 w iv ov kv0 x0 xs y0 ys ks) {g s : Nat} (hv : ov.ownBlock = some g) (hs : s ≤ 18446744073709551615) (h1 : w'.ownsRow base3 39 33 ov (ys.length + 1) ((outsL (y0 :: ys)).set 0 (uV s))) (hg : w.grownBy w' (some g)) :
    CSt base base2 base3 w' iv ov kv0 x0 xs ⟨s, y0.lock⟩ ys ks := by
  have e := h.outs.2 y0 List.mem_cons_self
  have gl := (h.outs.1.lt g hv).1
  have lw := h.low g gl
  refine ⟨⟨h.ins.1, h.ins.2.1.kept hg (.inr lw.1), h.ins.2.2.1, fun i x kv hx hk => ⟨(h.ins.2.2.2 i x kv hx hk).1.off (lw.2 i kv hk) hg, (h.ins.2.2.2 i x kv hx hk).2⟩⟩, ⟨h1, ?_⟩, h.low, fun h0 => (h.key h0).kept hg ?_, h.lo, h.ap⟩
  · intro z hz
    rcases List.mem_cons.1 hz with rfl | hz
    · exact ⟨e.1, hs⟩
    · exact h.outs.2 z (List.mem_cons_of_mem _ hz)
  · obtain ⟨gk, ck, e1, e2⟩ := own_shape0 (h.key h0) h0
    refine .inr (fun e3 => ?_)
    have e4 := lw.2 0 kv0 rfl ⟨gk, 0, none⟩ _ ck e1 h0
    rw [e2] at e3
    exact e4 e3.symm
/-- The first key's first byte is written. -/
theorem CSt.byte {b : UInt8} {bs : List UInt8} {g cap : Nat} (h : CSt base base2 base3 w iv ov (.slice (some ⟨g, 0, none⟩) (bs.length + 1) cap) x0 xs y0 ys ks) (hk : x0.key = b :: bs) (c : UInt8)
    (h1 : w'.ownsRow base2 5 1 (.slice (some ⟨g, 0, none⟩) (bs.length + 1) cap) (bs.length + 1) ((bV b :: bs.map bV).set 0 (bV c))) (hg : w.grownBy w' (some g)) :
    CSt base base2 base3 w' iv ov (.slice (some ⟨g, 0, none⟩) (bs.length + 1) cap) ⟨x0.h, x0.n, c :: bs, x0.seq⟩ xs y0 ys ks := by
  have e := h.ins.2.2.1 x0 List.mem_cons_self
  have g2 := (h1.lt g rfl).1
  have gl : g < base3 := by
    rcases Nat.lt_or_ge g base3 with h2 | h2
    · exact h2
    · exact absurd rfl ((h.low g h2).2 0 _ rfl ⟨g, 0, none⟩ _ cap rfl (by omega))
  refine ⟨⟨h.ins.1, h.ins.2.1.kept hg ?_, ?_, fun i x kv hx hkv => ?_⟩, h.outs.other hg gl, h.low, fun _ => h1, h.lo, h.ap⟩
  · cases hb : iv.ownBlock with
    | none => exact .inl rfl
    | some q => exact .inr (fun e3 => by have := h.lo q hb; have := Option.some.inj e3; omega)
  · intro z hz
    rcases List.mem_cons.1 hz with rfl | hz
    · exact e
    · exact h.ins.2.2.1 z (List.mem_cons_of_mem _ hz)
  · cases i with
    | zero =>
      cases hx
      cases hkv
      have h3 := h.ins.2.2.2 0 x0 _ rfl rfl
      have h4 : w'.ownsRow base2 5 1 (.slice (some ⟨g, 0, none⟩) (bs.length + 1) cap) (c :: bs).length ((c :: bs).map bV) := h1
      exact ⟨⟨src_own h4, some ⟨g, 0, none⟩, cap, rfl⟩, h3.2⟩
    | succ i =>
      have h3 := h.ins.2.2.2 (i + 1) x kv hx hkv
      exact ⟨h3.1.off (h.ap i kv hkv g rfl) hg, h3.2⟩
end
/-- The three transactions' boxes and what lies behind them. -/
structure OSt (W w : World) (g4 g5 : Nat) (t : TTx) (iv ov ivc ovc kv0 ivd ovd : Value) (bc bc2 bc3 bd : Nat) (x0 : TIn) (xs : List TIn) (y0 : TOut) (ys : List TOut) (ks ksd : List Value) : Prop where
  b : Below W.heap.size W w
  f1 : w.heap[W.heap.size]? = some (.cells (txL t iv ov).toArray 26 (0, 0))
  f4 : w.heap[g4]? = some (.cells (txL t ivc ovc).toArray 26 (0, 0))
  f5 : w.heap[g5]? = some (.cells (txL t ivd ovd).toArray 26 (0, 0))
  c : CSt bc bc2 bc3 w ivc ovc kv0 x0 xs y0 ys ks
  di : InsOwn bd w ivd t.ins ksd
  dou : OutsOwn bd w ovd t.outs
  s1 : W.heap.size < bc
  s2 : g4 < g5
  s3 : g4 ≤ bd
  s4 : bc ≤ bc2 ∧ bc ≤ bc3
  l1 : ∀ q, ivc.ownBlock = some q → q < g4
  l2 : ∀ q, ovc.ownBlock = some q → q < g4
  l3 : ∀ q, 0 < x0.key.length → kv0.ownBlock = some q → q < g4
section
variable {W w w' : World} {g4 g5 : Nat} {t : TTx} {iv ov ivc ovc kv0 ivd ovd : Value} {bc bc2 bc3 bd : Nat} {x0 x1 : TIn} {xs : List TIn} {y0 y1 : TOut} {ys : List TOut} {ks ksd : List Value}
theorem OSt.keep (h : OSt W w g4 g5 t iv ov ivc ovc kv0 ivd ovd bc bc2 bc3 bd x0 xs y0 ys ks ksd) (hb : Below w.heap.size w w') : OSt W w' g4 g5 t iv ov ivc ovc kv0 ivd ovd bc bc2 bc3 bd x0 xs y0 ys ks ksd :=
  ⟨h.b.trans (hb.mono h.b.size), row_below h.f1 hb, row_below h.f4 hb, row_below h.f5 hb, h.c.keep hb, h.di.keep hb, h.dou.keep hb, h.s1, h.s2, h.s3, h.s4, h.l1, h.l2, h.l3⟩
theorem OSt.step (h : OSt W w g4 g5 t iv ov ivc ovc kv0 ivd ovd bc bc2 bc3 bd x0 xs y0 ys ks ksd) {q : Nat} (hg : w.grownBy w' (some q)) (h1 : bc ≤ q) (h2 : q < g4) (hc : CSt bc bc2 bc3 w' ivc ovc kv0 x1 xs y1 ys ks) (hl : x1.key.length = x0.key.length) :
    OSt W w' g4 g5 t iv ov ivc ovc kv0 ivd ovd bc bc2 bc3 bd x1 xs y1 ys ks ksd :=
  ⟨h.b.grown hg h.b.size (fun k hk => by cases hk; have := h.s1; omega), row_far h.f1 hg (fun e => by have := h.s1; have := Option.some.inj e; omega), row_far h.f4 hg (fun e => by have := Option.some.inj e; omega),
    row_far h.f5 hg (fun e => by have := h.s2; have := Option.some.inj e; omega), hc, h.di.other hg (by have := h.s3; omega), h.dou.other hg (by have := h.s3; omega), h.s1, h.s2, h.s3, h.s4, h.l1, h.l2, fun k h0 => h.l3 k (by omega)⟩
end
set_option maxHeartbeats 4000000 in
set_option maxRecDepth 100000 in
theorem txown_main (HF : ∀ w, Calls Try.prog 4 #[] w fun e w' => e = .returned (.bool true) ∧ Below w.heap.size w w') (t : TTx) (v : Value) (w : World) (h1 : TxAt w v t) (k1 : TxCame t) :
    Calls Try.prog 3 #[v] w fun e w' => e = .returned (.bool true) ∧ Below w.heap.size w w' := by
  have H1 := Lib.hid h1
  obtain ⟨_, iv, ov, rfl, hti, hto⟩ := h1
  obtain ⟨si, ci, rfl, _, hti⟩ := hti
  obtain ⟨so, co, rfl, _, _⟩ := hto
  have HTI := Lib.hid hti
  obtain ⟨ni, hni⟩ : ∃ ni, ni = t.ins.length := ⟨_, rfl⟩
  obtain ⟨no, hno⟩ : ∃ no, no = t.outs.length := ⟨_, rfl⟩
  have NI := Lib.hid hni
  have NO := Lib.hid hno
  rw [← hni, ← hno] at H1
  rw [← hni, ← hno]
  have K1 := Lib.hid k1
  have HF := Lib.hid HF
  clear k1 hti hni hno
  go_enter Try.func3, Try.ntmps3
  go_upto_region 1 with fail
  have F := Lib.hid (heap_alloc_new w (.cells (txL t (.slice si ni ci) (.slice so no co)).toArray 26 (0, 0)))
  have B := Lib.hid ((Below.refl w.heap.size w).alloc (Nat.le_refl _) (.cells (txL t (.slice si ni ci) (.slice so no co)).toArray 26 (0, 0)))
  generalize hw1 : World.alloc _ _ = w1
  have e1 : w.alloc (.cells (txL t (.slice si ni ci) (.slice so no co)).toArray 26 (0, 0)) = w1 := hw1
  rw [e1] at F B
  clear hw1 e1
  go_upto_region 4 with (go_at_call 4; refine (HF.out _).mono ?_; rintro e w2 ⟨rfl, hb2⟩; have F := Lib.hid (row_below F.out hb2); have B := Lib.hid (B.out.trans (hb2.mono B.out.size)); clear hb2)
  obtain ⟨l1, hl1⟩ : ∃ l1, l1 = lightB t := ⟨_, rfl⟩
  have L1 := Lib.hid hl1
  clear hl1
  go_wp2_with ((with_reducible show wpList _ _ _ _ _ _); (refine wpList_load_row rfl 26 (.tmp 1) rfl w.heap.size rfl 26 (txL t (.slice si ni ci) (.slice so no co)).toArray (0, 0) _ F.out Try.underlying26 rfl (by kernel_rfl) ?_; go_frame))
  refine (light_any t _ w2 (H1.out.below B.out) l1 L1.out K1.out.2.2.2.2.1).mono ?_
  rintro e w3 ⟨rfl, hb3⟩
  have F := Lib.hid (row_below F.out hb3)
  have B := Lib.hid (B.out.trans (hb3.mono B.out.size))
  clear hb3
  cases l1
  · go_wp2_with fail
    go_ret
    exact ⟨rfl, B.out⟩
  have TS := Lib.hid (small_of_light K1.out L1.out.symm)
  have c1 : w3.cell? ⟨w.heap.size, 1, none⟩ = some (.slice si ni ci) := by rw [cell_of_row _ _ _ _ _ _ F.out]; rfl
  have c2 : w3.cell? ⟨w.heap.size, 2, none⟩ = some (.slice so no co) := by rw [cell_of_row _ _ _ _ _ _ F.out]; rfl
  rcases Bool.eq_false_or_eq_true ((ni : Int) == 0) with hn0 | hn0
  · go_wp2_with fail
    go_ret
    exact ⟨rfl, B.out⟩
  rcases Bool.eq_false_or_eq_true ((no : Int) == 0) with hm0 | hm0
  · go_wp2_with fail
    go_ret
    exact ⟨rfl, B.out⟩
  go_upto_region 6 with fail
  obtain ⟨x0, xs, hx0⟩ : ∃ x0 xs, t.ins = x0 :: xs := by
    cases hh : t.ins with
    | nil => have := NI.out; rw [hh] at this; simp at this; subst this; exact absurd hn0 (by decide)
    | cons a l => exact ⟨a, l, rfl⟩
  obtain ⟨y0, ys, hy0⟩ : ∃ y0 ys, t.outs = y0 :: ys := by
    cases hh : t.outs with
    | nil => have := NO.out; rw [hh] at this; simp at this; subst this; exact absurd hm0 (by decide)
    | cons a l => exact ⟨a, l, rfl⟩
  have X0 := Lib.hid hx0
  have Y0 := Lib.hid hy0
  have NI1 : Hid (ni = xs.length + 1) := by show _ = _; rw [NI.out, hx0]; rfl
  have NO1 : Hid (no = ys.length + 1) := by show _ = _; rw [NO.out, hy0]; rfl
  have NIP : 0 < ni := by have := NI1.out; omega
  have NOP : 0 < no := by have := NO1.out; omega
  clear c1 c2 hn0 hm0 hx0 hy0
  go_wp2_with ((with_reducible show wpList _ _ _ _ _ _); (refine wpList_load_row rfl 26 (.tmp 1) rfl w.heap.size rfl 26 (txL t (.slice si ni ci) (.slice so no co)).toArray (0, 0) _ F.out Try.underlying26 rfl (by kernel_rfl) ?_; go_frame))
  refine (clone_tx t _ w3 (H1.out.below B.out) TS.out).mono ?_
  rintro e w4 ⟨ivc, ovc, kss, bc, bc2, bc3, rfl, hb4, hsz4, hca⟩
  have CA := Lib.hid hca
  have OWI := Lib.hid hca.1.2.2.1
  have OWO := Lib.hid hca.2.1.1
  have ONEC := Lib.hid (tx_ones t (own_one hca.1.2.2.1) (own_one hca.2.1.1))
  have SZ4 := Lib.hid hsz4
  have WLT : Hid (w.heap.size < w3.heap.size) := (Array.getElem?_eq_some_iff.1 F.out).1
  have F := Lib.hid (row_below F.out hb4)
  have B := Lib.hid (B.out.trans (hb4.mono B.out.size))
  obtain ⟨kv0, ks, hks⟩ : ∃ kv0 ks, kss = kv0 :: ks := by
    cases hh : kss with
    | nil => have := hca.1.1; rw [hh, X0.out] at this; simp at this
    | cons a l => exact ⟨a, l, rfl⟩
  subst hks
  clear hb4 hsz4 hca
  go_upto_region 7 with ((with_reducible show wpList _ _ _ _ _ _); refine wpList_store_row rfl 26 (.tmp 4) (.tmp 26) rfl w4.heap.size (txL t ivc ovc).toArray rfl rfl 26 _ (heap_alloc_new _ _) (by kernel_rfl) rfl ONEC.out ?_; go_frame)
  obtain ⟨_, f2, _, f4⟩ := fill_setup (Below.refl w4.heap.size w4) [nV 0, .slice none 0 0, .slice none 0 0, nV 0].toArray (txL t ivc ovc).toArray 26
  obtain ⟨g4, hg⟩ : ∃ g4, g4 = w4.heap.size := ⟨_, rfl⟩
  generalize hwn : World.setRow _ _ _ = w5
  have en : World.setRow (w4.alloc (.cells [nV 0, .slice none 0 0, .slice none 0 0, nV 0].toArray 26)) w4.heap.size (txL t ivc ovc).toArray = w5 := hwn
  rw [en] at f2 f4
  rw [← hg] at f2 ⊢
  have Nw5 := Lib.hid f4
  have FNw5 := Lib.hid f2
  have Sg4 := Lib.hid hg
  clear f2 f4 hwn en hg
  have CS := Lib.hid ((CSt.of CA.out X0.out Y0.out).keep Nw5.out)
  have LI : Hid (∀ q, ivc.ownBlock = some q → q < g4) := fun q hq => by rw [Sg4.out]; exact (OWI.out.lt q hq).2
  have LO : Hid (∀ q, ovc.ownBlock = some q → q < g4) := fun q hq => by rw [Sg4.out]; exact (OWO.out.lt q hq).2
  have LK : Hid (∀ q, 0 < x0.key.length → kv0.ownBlock = some q → q < g4) := fun q _ hq => by rw [Sg4.out]; exact ((CA.out.1.2.2.2.2.2.1 0 x0 kv0 (by rw [X0.out]; rfl) rfl).lt q hq).2
  have F := Lib.hid (row_below F.out Nw5.out)
  have B := Lib.hid (B.out.trans (Nw5.out.mono B.out.size))
  have G4L : Hid (g4 < w5.heap.size) := (Array.getElem?_eq_some_iff.1 FNw5.out).1
  have BCS : Hid (w.heap.size < bc) := Nat.lt_of_lt_of_le WLT.out SZ4.out
  have BCL : Hid (bc ≤ bc2 ∧ bc ≤ bc3) := ⟨CA.out.1.2.2.2.1, CA.out.2.2.1⟩
  clear CA OWI OWO SZ4 WLT Sg4 Nw5
  go_wp2_with ((with_reducible show wpList _ _ _ _ _ _); (refine wpList_load_row rfl 26 (.tmp 1) rfl w.heap.size rfl 26 (txL t (.slice si ni ci) (.slice so no co)).toArray (0, 0) _ F.out Try.underlying26 rfl (by kernel_rfl) ?_; go_frame))
  refine (clone_tx t _ w5 (H1.out.below B.out) TS.out).mono ?_
  rintro e w6 ⟨ivd, ovd, ksd, bd, bd2, bd3, rfl, hb6, hsz6, hca⟩
  have ONED := Lib.hid (tx_ones t (own_one hca.1.2.2.1) (own_one hca.2.1.1))
  have BDS : Hid (g4 ≤ bd) := Nat.le_of_lt (Nat.lt_of_lt_of_le G4L.out hsz6)
  have DI := Lib.hid hca.1.own
  have DO : Hid (OutsOwn bd w6 ovd t.outs) := ⟨own_base hca.2.1.1 hca.2.2.1, hca.2.1.2⟩
  have F := Lib.hid (row_below F.out hb6)
  have F4 := Lib.hid (row_below FNw5.out hb6)
  have CS := Lib.hid (CS.out.keep hb6)
  have B := Lib.hid (B.out.trans (hb6.mono B.out.size))
  have G4L : Hid (g4 < w6.heap.size) := Nat.lt_of_lt_of_le G4L.out hb6.size
  clear hb6 hsz6 hca FNw5
  go_upto_region 8 with ((with_reducible show wpList _ _ _ _ _ _); refine wpList_store_row rfl 26 (.tmp 5) (.tmp 28) rfl w6.heap.size (txL t ivd ovd).toArray rfl rfl 26 _ (heap_alloc_new _ _) (by kernel_rfl) rfl ONED.out ?_; go_frame)
  obtain ⟨_, f2, _, f4⟩ := fill_setup (Below.refl w6.heap.size w6) [nV 0, .slice none 0 0, .slice none 0 0, nV 0].toArray (txL t ivd ovd).toArray 26
  obtain ⟨g5, hg⟩ : ∃ g5, g5 = w6.heap.size := ⟨_, rfl⟩
  generalize hwn : World.setRow _ _ _ = w7
  have en : World.setRow (w6.alloc (.cells [nV 0, .slice none 0 0, .slice none 0 0, nV 0].toArray 26)) w6.heap.size (txL t ivd ovd).toArray = w7 := hwn
  rw [en] at f2 f4
  rw [← hg] at f2 ⊢
  have Nw7 := Lib.hid f4
  have FNw7 := Lib.hid f2
  have Sg5 := Lib.hid hg
  clear f2 f4 hwn en hg
  have O7 : Hid (OSt w w7 g4 g5 t (.slice si ni ci) (.slice so no co) ivc ovc kv0 ivd ovd bc bc2 bc3 bd x0 xs y0 ys ks ksd) :=
    ⟨B.out.trans (Nw7.out.mono B.out.size), row_below F.out Nw7.out, row_below F4.out Nw7.out, FNw7.out, CS.out.keep Nw7.out, DI.out.keep Nw7.out, DO.out.keep Nw7.out, BCS.out, by rw [Sg5.out]; exact G4L.out, BDS.out, BCL.out, LI.out, LO.out, LK.out⟩
  obtain ⟨gi, cic, hivc, hgi⟩ := own_shape0 CS.out.ins.2.1 (by simp)
  obtain ⟨go, coc, hovc, hgo⟩ := own_shape0 CS.out.outs.1 (by simp)
  replace hivc : ivc = .slice (some ⟨gi, 0, none⟩) (xs.length + 1) cic := hivc
  replace hovc : ovc = .slice (some ⟨go, 0, none⟩) (ys.length + 1) coc := hovc
  have GI : Hid (bc ≤ gi ∧ gi < g4) := ⟨(CS.out.ins.2.1.lt gi hgi).1, LI.out gi hgi⟩
  have GO : Hid (bc ≤ go ∧ go < g4) := ⟨Nat.le_trans BCL.out.2 (CS.out.outs.1.lt go hgo).1, LO.out go hgo⟩
  obtain ⟨skc, ckc, hkc⟩ := (CS.out.ins.2.2.2 0 x0 kv0 rfl rfl).1.2
  obtain ⟨bt, ot, hsi, hat⟩ := HTI.out (by rw [← NI.out]; exact NIP)
  obtain ⟨_, kvt, hkt, hrt⟩ := hat 0 x0 (by rw [X0.out]; rfl)
  obtain ⟨skt, ckt, hkt2⟩ := hkt.2
  have XH : Hid (x0.h.length = 32) := (CS.out.ins.2.2.1 x0 List.mem_cons_self).1
  have RT := Lib.hid hrt
  obtain ⟨kl, hkl⟩ : ∃ kl, kl = x0.key.length := ⟨_, rfl⟩
  rw [← hkl] at hkc hkt2
  have KL := Lib.hid hkl
  subst hkt2 hkc hsi
  have hni : ni = xs.length + 1 := NI1.out
  have hno : no = ys.length + 1 := NO1.out
  rw [← hni] at hivc
  rw [← hno] at hovc
  subst hivc hovc
  clear hni hno hkl hrt hkt hat hgi hgo B F F4 CS DI DO BCS G4L BDS BCL LI LO LK Sg5 Nw7 FNw7 ONEC ONED
  have CK : Hid (∀ w', Below w7.heap.size w7 w' → w'.cell? ⟨gi, 33, none⟩ = some (.slice skc kl ckc)) := fun w' hw' => (O7.out.keep hw').c.keyCell (by rw [NI1.out])
  have CT : Hid (∀ w', Below w7.heap.size w7 w' → w'.cell? ⟨bt, ot + 33, none⟩ = some (.slice skt kl ckt)) := fun w' hw' => in_key XH.out (by have h := range_below RT.out ((O7.out.keep hw').b); simpa using h)
  refine wp_region_held_drew (S := (fun w' => Below w7.heap.size w7 w')) (by kernel_rfl) (Below.drew (Below.refl _ _)) (fun hHeld => ?_)
  generalize hwd : w7.drew = wd
  rw [hwd] at hHeld
  clear hwd
  refine held_take (i := 0) (v := (.pointer (some ⟨g4, 1, none⟩))) rfl (by kernel_rfl) (by kernel_rfl) (by kernel_rfl) (fun _ _ _ h => h) (Or.inl ⟨by rfl, fun w' _ => by kernel_rfl⟩) hHeld ?_
  go_frame
  refine held_take (i := 1) (v := (.slice (some ⟨gi, 0, none⟩) ni cic)) rfl (by kernel_rfl) (by kernel_rfl) (by kernel_rfl) (fun _ _ _ h => h) (yieldsIf_load_one (by rfl) 23 _ rfl g4 (1) rfl _ _ (fun w' hw' => by rw [cell_of_row _ _ _ _ _ _ (row_below O7.out.f4 hw')]; rfl) Try.underlying23 rfl) hHeld ?_
  go_frame
  refine held_take (i := 2) (v := (.int .i64 (ni : Int))) rfl (by kernel_rfl) (by kernel_rfl) (by kernel_rfl) (fun _ _ _ h => h) (Or.inl ⟨by rfl, fun w' _ => by kernel_rfl⟩) hHeld ?_
  go_frame
  refine held_take (i := 3) (v := (.pointer (some ⟨w.heap.size, 1, none⟩))) rfl (by kernel_rfl) (by kernel_rfl) (by kernel_rfl) (fun _ _ _ h => h) (Or.inl ⟨by rfl, fun w' _ => by kernel_rfl⟩) hHeld ?_
  go_frame
  refine held_take (i := 4) (v := (.slice (some ⟨bt, ot, none⟩) ni ci)) rfl (by kernel_rfl) (by kernel_rfl) (by kernel_rfl) (fun _ _ _ h => h) (yieldsIf_load_one (by rfl) 23 _ rfl w.heap.size (1) rfl _ _ (fun w' hw' => by rw [cell_of_row _ _ _ _ _ _ (row_below O7.out.f1 hw')]; rfl) Try.underlying23 rfl) hHeld ?_
  go_frame
  refine held_take (i := 5) (v := (.int .i64 (ni : Int))) rfl (by kernel_rfl) (by kernel_rfl) (by kernel_rfl) (fun _ _ _ h => h) (Or.inl ⟨by rfl, fun w' _ => by kernel_rfl⟩) hHeld ?_
  go_frame
  refine held_take (i := 6) (v := (.bool false)) rfl (by kernel_rfl) (by kernel_rfl) (by kernel_rfl) (fun _ _ _ h => h) (Or.inl ⟨by rfl, fun w' _ => by go_simp⟩) hHeld ?_
  go_frame
  refine held_take (i := 7) (v := (.bool false)) rfl (by kernel_rfl) (by kernel_rfl) (by kernel_rfl) (fun _ _ _ h => h) (Or.inl ⟨by rfl, fun w' _ => by kernel_rfl⟩) hHeld ?_
  go_frame
  refine held_take (i := 8) (v := (.pointer (some ⟨g4, 2, none⟩))) rfl (by kernel_rfl) (by kernel_rfl) (by kernel_rfl) (fun _ _ _ h => h) (Or.inl ⟨by rfl, fun w' _ => by kernel_rfl⟩) hHeld ?_
  go_frame
  refine held_take (i := 9) (v := (.slice (some ⟨go, 0, none⟩) no coc)) rfl (by kernel_rfl) (by kernel_rfl) (by kernel_rfl) (fun _ _ _ h => h) (yieldsIf_load_one (by rfl) 24 _ rfl g4 (2) rfl _ _ (fun w' hw' => by rw [cell_of_row _ _ _ _ _ _ (row_below O7.out.f4 hw')]; rfl) Try.underlying24 rfl) hHeld ?_
  go_frame
  refine held_take (i := 10) (v := (.int .i64 (no : Int))) rfl (by kernel_rfl) (by kernel_rfl) (by kernel_rfl) (fun _ _ _ h => h) (Or.inl ⟨by rfl, fun w' _ => by kernel_rfl⟩) hHeld ?_
  go_frame
  refine held_take (i := 11) (v := (.pointer (some ⟨w.heap.size, 2, none⟩))) rfl (by kernel_rfl) (by kernel_rfl) (by kernel_rfl) (fun _ _ _ h => h) (Or.inl ⟨by rfl, fun w' _ => by kernel_rfl⟩) hHeld ?_
  go_frame
  refine held_take (i := 12) (v := (.slice so no co)) rfl (by kernel_rfl) (by kernel_rfl) (by kernel_rfl) (fun _ _ _ h => h) (yieldsIf_load_one (by rfl) 24 _ rfl w.heap.size (2) rfl _ _ (fun w' hw' => by rw [cell_of_row _ _ _ _ _ _ (row_below O7.out.f1 hw')]; rfl) Try.underlying24 rfl) hHeld ?_
  go_frame
  refine held_take (i := 13) (v := (.int .i64 (no : Int))) rfl (by kernel_rfl) (by kernel_rfl) (by kernel_rfl) (fun _ _ _ h => h) (Or.inl ⟨by rfl, fun w' _ => by kernel_rfl⟩) hHeld ?_
  go_frame
  refine held_take (i := 14) (v := (.bool false)) rfl (by kernel_rfl) (by kernel_rfl) (by kernel_rfl) (fun _ _ _ h => h) (Or.inl ⟨by rfl, fun w' _ => by go_simp⟩) hHeld ?_
  go_frame
  refine held_take (i := 15) (v := (.bool false)) rfl (by kernel_rfl) (by kernel_rfl) (by kernel_rfl) (fun _ _ _ h => h) (Or.inl ⟨by rfl, fun w' _ => by kernel_rfl⟩) hHeld ?_
  go_frame
  refine held_take (i := 16) (v := (.bool false)) rfl (by kernel_rfl) (by kernel_rfl) (by kernel_rfl) (fun _ _ _ h => h) (Or.inl ⟨by rfl, fun w' _ => by kernel_rfl⟩) hHeld ?_
  go_frame
  refine held_take (i := 17) (v := (.pointer (some ⟨g4, 1, none⟩))) rfl (by kernel_rfl) (by kernel_rfl) (by kernel_rfl) (fun _ _ _ h => h) (Or.inl ⟨by rfl, fun w' _ => by kernel_rfl⟩) hHeld ?_
  go_frame
  refine held_take (i := 18) (v := (.slice (some ⟨gi, 0, none⟩) ni cic)) rfl (by kernel_rfl) (by kernel_rfl) (by kernel_rfl) (fun _ _ _ h => h) (yieldsIf_load_one (by rfl) 23 _ rfl g4 (1) rfl _ _ (fun w' hw' => by rw [cell_of_row _ _ _ _ _ _ (row_below O7.out.f4 hw')]; rfl) Try.underlying23 rfl) hHeld ?_
  go_frame
  refine held_take (i := 19) (v := (.pointer (some ⟨gi, 0, none⟩))) rfl (by kernel_rfl) (by kernel_rfl) (by kernel_rfl) (fun _ _ _ h => h) (Or.inl ⟨by rfl, fun w' _ => by go_simp⟩) hHeld ?_
  go_frame
  refine held_take (i := 20) (v := (.pointer (some ⟨gi, 33, none⟩))) rfl (by kernel_rfl) (by kernel_rfl) (by kernel_rfl) (fun _ _ _ h => h) (Or.inl ⟨by rfl, fun w' _ => by kernel_rfl⟩) hHeld ?_
  go_frame
  refine held_take (i := 21) (v := (.slice skc kl ckc)) rfl (by kernel_rfl) (by kernel_rfl) (by kernel_rfl) (fun _ _ _ h => h) (yieldsIf_load_one (by rfl) 34 _ rfl gi (33) rfl _ _ (fun w' hw' => CK.out w' hw') Try.underlying34 rfl) hHeld ?_
  go_frame
  refine held_take (i := 22) (v := (.int .i64 (kl : Int))) rfl (by kernel_rfl) (by kernel_rfl) (by kernel_rfl) (fun _ _ _ h => h) (Or.inl ⟨by rfl, fun w' _ => by kernel_rfl⟩) hHeld ?_
  go_frame
  refine held_take (i := 23) (v := (.pointer (some ⟨w.heap.size, 1, none⟩))) rfl (by kernel_rfl) (by kernel_rfl) (by kernel_rfl) (fun _ _ _ h => h) (Or.inl ⟨by rfl, fun w' _ => by kernel_rfl⟩) hHeld ?_
  go_frame
  refine held_take (i := 24) (v := (.slice (some ⟨bt, ot, none⟩) ni ci)) rfl (by kernel_rfl) (by kernel_rfl) (by kernel_rfl) (fun _ _ _ h => h) (yieldsIf_load_one (by rfl) 23 _ rfl w.heap.size (1) rfl _ _ (fun w' hw' => by rw [cell_of_row _ _ _ _ _ _ (row_below O7.out.f1 hw')]; rfl) Try.underlying23 rfl) hHeld ?_
  go_frame
  refine held_take (i := 25) (v := (.pointer (some ⟨bt, ot, none⟩))) rfl (by kernel_rfl) (by kernel_rfl) (by kernel_rfl) (fun _ _ _ h => h) (Or.inl ⟨by rfl, fun w' _ => by go_simp⟩) hHeld ?_
  go_frame
  refine held_take (i := 26) (v := (.pointer (some ⟨bt, ot + 33, none⟩))) rfl (by kernel_rfl) (by kernel_rfl) (by kernel_rfl) (fun _ _ _ h => h) (Or.inl ⟨by rfl, fun w' _ => by kernel_rfl⟩) hHeld ?_
  go_frame
  refine held_take (i := 27) (v := (.slice skt kl ckt)) rfl (by kernel_rfl) (by kernel_rfl) (by kernel_rfl) (fun _ _ _ h => h) (yieldsIf_load_one (by rfl) 34 _ rfl bt (ot + 33) rfl _ _ (fun w' hw' => CT.out w' hw') Try.underlying34 rfl) hHeld ?_
  go_frame
  refine held_take (i := 28) (v := (.int .i64 (kl : Int))) rfl (by kernel_rfl) (by kernel_rfl) (by kernel_rfl) (fun _ _ _ h => h) (Or.inl ⟨by rfl, fun w' _ => by kernel_rfl⟩) hHeld ?_
  go_frame
  refine held_take (i := 29) (v := (.bool false)) rfl (by kernel_rfl) (by kernel_rfl) (by kernel_rfl) (fun _ _ _ h => h) (Or.inl ⟨by rfl, fun w' _ => by go_simp⟩) hHeld ?_
  go_frame
  refine held_take (i := 30) (v := (.bool false)) rfl (by kernel_rfl) (by kernel_rfl) (by kernel_rfl) (fun _ _ _ h => h) (Or.inl ⟨by rfl, fun w' _ => by kernel_rfl⟩) hHeld ?_
  go_frame
  refine wpAnyH_done (by kernel_rfl) ?_ _
  have O8 := Lib.hid (O7.out.keep hHeld)
  clear hHeld O7 CK CT RT
  have c1 : wd.cell? ⟨g4, 1, none⟩ = some (.slice (some ⟨gi, 0, none⟩) ni cic) := by rw [cell_of_row _ _ _ _ _ _ O8.out.f4]; rfl
  have c2 : wd.cell? ⟨gi, 34, none⟩ = some (.int .u32 (x0.seq : Int)) := O8.out.c.seqCell (by rw [NI1.out])
  go_upto_region 10 with fail
  have OW := Lib.hid (show wd.ownsRow bc 36 35 (.slice (some ⟨gi, 0, none⟩) ni cic) ni (insL (x0 :: xs) ((.slice skc kl ckc) :: ks)) by have h := O8.out.c.ins.2.1; rw [List.length_cons, ← NI1.out] at h; exact h)
  have LT := Lib.hid (show 34 < ni * 35 by omega)
  go_upto_region 11 with ((with_reducible show wpList _ _ _ _ _ _); refine wpList_store_own rfl 22 (.tmp 67) (.tmp 65) rfl gi 34 bc 35 ni cic 36 (insL (x0 :: xs) ((.slice skc kl ckc) :: ks)) (.int .u32 (IntKind.u32.wrap ((x0.seq : Int) + 1))) rfl rfl rfl (by kernel_rfl) OW.out LT.out ?_; intro w9 q1 q2; have W1 := Lib.hid q1; have Q1 := Lib.hid q2; clear q1 q2; go_frame)
  obtain ⟨s1, hs1⟩ : ∃ s1, s1 = (x0.seq + 1) % 4294967296 := ⟨_, rfl⟩
  have S1 := Lib.hid hs1
  have W1 : Hid (w9.ownsRow bc 36 35 (.slice (some ⟨gi, 0, none⟩) ni cic) (xs.length + 1) ((insL (x0 :: xs) ((.slice skc kl ckc) :: ks)).set 34 (nV s1))) := by
    have h := W1.out
    rw [wrap_u32_1, ← hs1] at h
    rw [← NI1.out]
    exact h
  have O9 := Lib.hid (O8.out.step Q1.out GI.out.1 GI.out.2 (O8.out.c.seq rfl (by rw [hs1]; omega) W1.out Q1.out) rfl)
  clear c1 c2 OW LT W1 Q1 hs1 O8
  have c1 : w9.cell? ⟨g4, 2, none⟩ = some (.slice (some ⟨go, 0, none⟩) no coc) := by rw [cell_of_row _ _ _ _ _ _ O9.out.f4]; rfl
  have c2 : w9.cell? ⟨go, 0, none⟩ = some (.int .u64 (y0.val : Int)) := O9.out.c.valCell (by rw [NO1.out])
  have OW := Lib.hid (show w9.ownsRow bc3 39 33 (.slice (some ⟨go, 0, none⟩) no coc) no (outsL (y0 :: ys)) by have h := O9.out.c.outs.1; rw [List.length_cons, ← NO1.out] at h; exact h)
  have LT := Lib.hid (show 0 < no * 33 by omega)
  go_upto_region 12 with ((with_reducible show wpList _ _ _ _ _ _); refine wpList_store_own rfl 37 (.tmp 75) (.tmp 73) rfl go 0 bc3 33 no coc 39 (outsL (y0 :: ys)) (.int .u64 (IntKind.u64.wrap ((y0.val : Int) + 1))) rfl rfl rfl (by kernel_rfl) OW.out LT.out ?_; intro w10 q1 q2; have W1 := Lib.hid q1; have Q1 := Lib.hid q2; clear q1 q2; go_frame)
  obtain ⟨s2, hs2⟩ : ∃ s2, s2 = (y0.val + 1) % 18446744073709551616 := ⟨_, rfl⟩
  have W1 : Hid (w10.ownsRow bc3 39 33 (.slice (some ⟨go, 0, none⟩) no coc) (ys.length + 1) ((outsL (y0 :: ys)).set 0 (uV s2))) := by
    have h := W1.out
    rw [wrap_u64_1, ← hs2] at h
    rw [← NO1.out]
    exact h
  have O10 := Lib.hid (O9.out.step Q1.out GO.out.1 GO.out.2 (O9.out.c.val rfl (by rw [hs2]; omega) W1.out Q1.out) rfl)
  clear c1 c2 OW LT W1 Q1 hs2 O9
  have HEND : Hid (∀ (wz : World) (x1 : TIn), x1.seq = s1 → x1.key.length = kl → OSt w wz g4 g5 t (.slice (some ⟨bt, ot, none⟩) ni ci) (.slice so no co) (.slice (some ⟨gi, 0, none⟩) ni cic) (.slice (some ⟨go, 0, none⟩) no coc) (.slice skc kl ckc) ivd ovd bc bc2 bc3 bd x1 xs ⟨s2, y0.lock⟩ ys ks ksd →
      ∃ u : TTx, u ≠ t ∧ KeysLe u.ins 70368744177664 ∧ u.ins.length = t.ins.length ∧ u.outs.length = t.outs.length ∧ TxAt wz (.agg (txL t (.slice (some ⟨gi, 0, none⟩) ni cic) (.slice (some ⟨go, 0, none⟩) no coc)).toArray) u) := fun wz x1 hq1 hq2 hO => by
    refine ⟨⟨t.ver, x1 :: xs, ⟨s2, y0.lock⟩ :: ys, t.time⟩, fun e => ?_, ?_, by rw [X0.out]; rfl, by rw [Y0.out]; rfl, TS.out.1.1, _, _, rfl, hO.c.ins.at, hO.c.outs.at⟩
    · have e1 := congrArg TTx.ins e
      rw [X0.out] at e1
      have e2 := (List.cons.inj e1).1
      have e3 := congrArg TIn.seq e2
      rw [hq1, S1.out] at e3
      have e4 := (K1.out.2.1 x0 (by rw [X0.out]; exact List.mem_cons_self)).2.2
      have e5 : (x0.seq + 1) % 4294967296 = x0.seq := e3
      omega
    · intro z hz
      rcases List.mem_cons.1 hz with rfl | hz
      · rw [hq2, KL.out]
        exact Nat.le_trans (TS.out.2.2.2 x0 (by rw [X0.out]; exact List.mem_cons_self)) (by omega)
      · exact Nat.le_trans (TS.out.2.2.2 z (by rw [X0.out]; exact List.mem_cons_of_mem _ hz)) (by omega)
  have HKT : Hid (KeysLe t.ins 70368744177664) := fun z hz => Nat.le_trans (TS.out.2.2.2 z hz) (by omega)
  have c1 : w10.cell? ⟨g4, 1, none⟩ = some (.slice (some ⟨gi, 0, none⟩) ni cic) := by rw [cell_of_row _ _ _ _ _ _ O10.out.f4]; rfl
  have c2 : w10.cell? ⟨gi, 33, none⟩ = some (.slice skc kl ckc) := O10.out.c.keyCell (by rw [NI1.out])
  rcases Nat.eq_zero_or_pos kl with hk0 | hk0
  · have hk1 : ¬ (0 : Int) < (kl : Int) := by omega
    go_upto_region 14 with fail
    clear hk0 hk1 c1 c2
    obtain ⟨u, hu1, hu2, hu3, hu4, hu5⟩ := HEND.out _ ⟨x0.h, x0.n, x0.key, s1⟩ rfl KL.out.symm O10.out
    have U1 := Lib.hid hu1
    have U2 := Lib.hid hu2
    have U3 := Lib.hid hu3
    have U4 := Lib.hid hu4
    have U5 := Lib.hid hu5
    clear hu1 hu2 hu3 hu4 hu5
    go_wp2_with ((with_reducible show wpList _ _ _ _ _ _); first | (refine wpList_load_rowG 26 (.tmp 5) rfl g5 rfl 26 (txL t ivd ovd).toArray (0, 0) _ O10.out.f5 Try.underlying26 rfl (by kernel_rfl) rfl ?_; go_frame) | (refine wpList_load_rowG 26 (.tmp 1) rfl w.heap.size rfl 26 (txL t (.slice (some ⟨bt, ot, none⟩) ni ci) (.slice so no co)).toArray (0, 0) _ O10.out.f1 Try.underlying26 rfl (by kernel_rfl) rfl ?_; go_frame))
    refine (sametx_any t t _ _ _ ⟨TS.out.1.1, _, _, rfl, O10.out.di.at, O10.out.dou.at⟩ (H1.out.below O10.out.b) HKT.out true (by simp) (Nat.le_trans TS.out.2.1 (by omega)) (Nat.le_trans TS.out.2.2.1 (by omega))).mono ?_
    rintro e w11 ⟨rfl, hb⟩
    have U5 := Lib.hid (U5.out.below hb)
    have OE := Lib.hid (O10.out.keep hb)
    clear hb
    go_wp2_with ((with_reducible show wpList _ _ _ _ _ _); first | (refine wpList_load_rowG 26 (.tmp 4) rfl g4 rfl 26 (txL t (.slice (some ⟨gi, 0, none⟩) ni cic) (.slice (some ⟨go, 0, none⟩) no coc)).toArray (0, 0) _ OE.out.f4 Try.underlying26 rfl (by kernel_rfl) rfl ?_; go_frame) | (refine wpList_load_rowG 26 (.tmp 1) rfl w.heap.size rfl 26 (txL t (.slice (some ⟨bt, ot, none⟩) ni ci) (.slice so no co)).toArray (0, 0) _ OE.out.f1 Try.underlying26 rfl (by kernel_rfl) rfl ?_; go_frame))
    refine (sametx_any u t _ _ _ U5.out (H1.out.below OE.out.b) U2.out false (by simp; exact U1.out) (Nat.le_trans (Nat.le_of_eq U3.out) (Nat.le_trans TS.out.2.1 (by omega))) (Nat.le_trans (Nat.le_of_eq U4.out) (Nat.le_trans TS.out.2.2.1 (by omega)))).mono ?_
    rintro e w12 ⟨rfl, hb⟩
    have BE := Lib.hid (OE.out.keep hb).b
    clear hb
    go_wp2_with fail
    go_ret
    exact ⟨rfl, BE.out⟩
  have hk1 : (0 : Int) < (kl : Int) := by omega
  obtain ⟨b0, bs, hkey⟩ : ∃ b0 bs, x0.key = b0 :: bs := by
    cases hh : x0.key with
    | nil => have := KL.out; rw [hh] at this; simp at this; omega
    | cons a l => exact ⟨a, l, rfl⟩
  have KEY := Lib.hid hkey
  have KLB : Hid (kl = bs.length + 1) := by show _ = _; rw [KL.out, hkey]; rfl
  obtain ⟨gk, ckk, hsk, hgk⟩ := own_shape0 (O10.out.c.key (by rw [← KL.out]; exact hk0)) (by rw [← KL.out]; exact hk0)
  have hsk2 := (Value.slice.inj hsk).1
  subst hsk2
  have GK : Hid (bc ≤ gk ∧ gk < g4) := ⟨Nat.le_trans O10.out.s4.1 ((O10.out.c.key (by rw [← KL.out]; exact hk0)).lt gk rfl).1, O10.out.l3 gk (by rw [← KL.out]; exact hk0) rfl⟩
  have OWK : Hid (w10.ownsRow bc2 5 1 (.slice (some ⟨gk, 0, none⟩) kl ckc) kl (bV b0 :: bs.map bV)) := by
    have h := O10.out.c.key (by rw [← KL.out]; exact hk0)
    rw [← KL.out] at h
    show World.ownsRow _ _ _ _ _ _ _
    have e : x0.key.map bV = bV b0 :: bs.map bV := by rw [KEY.out]; rfl
    rw [← e]
    exact h
  have c3 : w10.cell? ⟨gk, 0, none⟩ = some (.int .u8 (bv b0)) := by
    rw [OWK.out.cellAt 0 (by omega)]
    rfl
  have LTK : Hid (0 < kl * 1) := by show 0 < _; omega
  clear hkey hsk hgk
  go_upto_region 14 with ((with_reducible show wpList _ _ _ _ _ _); refine wpList_store_own rfl 5 (.tmp 91) (.tmp 90) rfl gk 0 bc2 1 kl ckc 5 (bV b0 :: bs.map bV) (.int .u8 (IntKind.u8.wrap (bv b0 + 1))) rfl rfl rfl (by kernel_rfl) OWK.out LTK.out ?_; intro w11 q1 q2; have W1 := Lib.hid q1; have Q1 := Lib.hid q2; clear q1 q2; go_frame)
  have OB : Hid (OSt w w11 g4 g5 t (.slice (some ⟨bt, ot, none⟩) ni ci) (.slice so no co) (.slice (some ⟨gi, 0, none⟩) ni cic) (.slice (some ⟨go, 0, none⟩) no coc) (.slice (some ⟨gk, 0, none⟩) kl ckc) ivd ovd bc bc2 bc3 bd ⟨x0.h, x0.n, UInt8.ofNat (b0.toNat + 1) :: bs, s1⟩ xs ⟨s2, y0.lock⟩ ys ks ksd) := by
    have h := W1.out
    rw [wrap_u8_1] at h
    have e := KLB.out
    have hO := O10.out
    have hQ := Q1.out
    have hG := GK.out
    have hl := KL.out
    have hkk := KEY.out
    clear c1 c2 c3 hk0 hk1 OWK LTK W1 Q1 O10 HEND KL KLB
    subst e
    exact hO.step hQ hG.1 hG.2 (hO.c.byte (x0 := ⟨x0.h, x0.n, x0.key, s1⟩) hkk _ h hQ) hl
  clear c1 c2 c3 hk0 hk1 OWK LTK W1 Q1 O10
  obtain ⟨u, hu1, hu2, hu3, hu4, hu5⟩ := HEND.out _ ⟨x0.h, x0.n, UInt8.ofNat (b0.toNat + 1) :: bs, s1⟩ rfl KLB.out.symm OB.out
  have U1 := Lib.hid hu1
  have U2 := Lib.hid hu2
  have U3 := Lib.hid hu3
  have U4 := Lib.hid hu4
  have U5 := Lib.hid hu5
  clear hu1 hu2 hu3 hu4 hu5
  go_wp2_with ((with_reducible show wpList _ _ _ _ _ _); first | (refine wpList_load_rowG 26 (.tmp 5) rfl g5 rfl 26 (txL t ivd ovd).toArray (0, 0) _ OB.out.f5 Try.underlying26 rfl (by kernel_rfl) rfl ?_; go_frame) | (refine wpList_load_rowG 26 (.tmp 1) rfl w.heap.size rfl 26 (txL t (.slice (some ⟨bt, ot, none⟩) ni ci) (.slice so no co)).toArray (0, 0) _ OB.out.f1 Try.underlying26 rfl (by kernel_rfl) rfl ?_; go_frame))
  refine (sametx_any t t _ _ _ ⟨TS.out.1.1, _, _, rfl, OB.out.di.at, OB.out.dou.at⟩ (H1.out.below OB.out.b) HKT.out true (by simp) (Nat.le_trans TS.out.2.1 (by omega)) (Nat.le_trans TS.out.2.2.1 (by omega))).mono ?_
  rintro e w11 ⟨rfl, hb⟩
  have U5 := Lib.hid (U5.out.below hb)
  have OE := Lib.hid (OB.out.keep hb)
  clear hb
  go_wp2_with ((with_reducible show wpList _ _ _ _ _ _); first | (refine wpList_load_rowG 26 (.tmp 4) rfl g4 rfl 26 (txL t (.slice (some ⟨gi, 0, none⟩) ni cic) (.slice (some ⟨go, 0, none⟩) no coc)).toArray (0, 0) _ OE.out.f4 Try.underlying26 rfl (by kernel_rfl) rfl ?_; go_frame) | (refine wpList_load_rowG 26 (.tmp 1) rfl w.heap.size rfl 26 (txL t (.slice (some ⟨bt, ot, none⟩) ni ci) (.slice so no co)).toArray (0, 0) _ OE.out.f1 Try.underlying26 rfl (by kernel_rfl) rfl ?_; go_frame))
  refine (sametx_any u t _ _ _ U5.out (H1.out.below OE.out.b) U2.out false (by simp; exact U1.out) (Nat.le_trans (Nat.le_of_eq U3.out) (Nat.le_trans TS.out.2.1 (by omega))) (Nat.le_trans (Nat.le_of_eq U4.out) (Nat.le_trans TS.out.2.2.1 (by omega)))).mono ?_
  rintro e w12 ⟨rfl, hb⟩
  have BE := Lib.hid (OE.out.keep hb).b
  clear hb
  go_wp2_with fail
  go_ret
  exact ⟨rfl, BE.out⟩
end Go.Proofs.Ytkabpbclmhmgfaa.Sha
