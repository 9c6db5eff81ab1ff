/-
  slices.Clone copies rows of inputs and of outputs; a cell of a row of one's own is stored into. Conditions: the rows lie in memory; fewer than a million.
-/
import Derived.Test.YtkabpbclmhmgfaaTxTakeW0
import Derived.Test.YtkabpbclmhmgfaaCmpNum
import Derived.Test.YtkabpbclmhmgfaaArgsTx
namespace Go.Proofs.Ytkabpbclmhmgfaa.Sha
open Go Go.RowKit

set_option maxHeartbeats 1000000 in
set_option maxRecDepth 100000 in
theorem clone_rowI (n : Nat) (xs : List Value) (v : Value) (w : World) (hv : ∃ sp cap, v = .slice sp n cap ∧ (0 < n → n ≤ cap ∧ ∃ b o, sp = some ⟨b, o, none⟩ ∧ w.rangeAt b o xs)) (hl : xs.length = n * 35) (h1 : ∀ u ∈ xs, u.oneCell' = true) (hn : n ≤ 1000000) :
    Calls Try.prog 10 #[v] w fun e w' => ∃ v', e = .returned v' ∧ w'.ownsRow w.heap.size 36 35 v' n xs ∧ Below w.heap.size w w' := by
  obtain ⟨i0, hi, hz0, hz1, hz2⟩ := info_parts info_in
  obtain ⟨sp, cap, rfl, hs⟩ := hv
  have hown0 : (w.alloc (.cells #[] 36)).ownsRow w.heap.size 36 35 (.slice (some ⟨w.heap.size, 0, none⟩) 0 0) 0 [] := World.ownsRow_lit w #[] 0 (Nat.le_refl _) (by unfold maxLen; omega) rfl
  have HO0 := Lib.hid hown0
  have HB0 := Lib.hid ((Below.refl w.heap.size w).alloc (Nat.le_refl _) (.cells #[] 36 (0, 0)))
  by_cases h0 : n = 0
  · subst h0
    obtain rfl : xs = [] := List.eq_nil_of_length_eq_zero (by omega)
    cases sp with
    | none =>
      clear hown0 HO0 hs
      have hq : ∀ W, (binOp .eql 23 (.slice none 0 cap) (.slice none 0 0)).run Try.prog W = .ok (.bool true) W := fun W => by kernel_rfl
      go_enter Try.func10, Try.ntmps10
      go_wp2_with fail
      go_ret
      exact ⟨_, rfl, World.ownsRow_nil w _ _ _, Below.refl _ _⟩
    | some ad =>
      have hap : ∀ ty, (Builtin.append_ #[23, 23] ty #[.slice (some ⟨w.heap.size, 0, none⟩) 0 0, .slice (some ad) 0 cap]).run Try.prog (w.alloc (.cells #[] 36)) = .ok (.slice (some ⟨w.heap.size, 0, none⟩) 0 0) (w.alloc (.cells #[] 36)) := fun ty =>
        run_append_src0 w.heap.size 23 ty 36 i0 Try.underlying23 hi w.heap.size 0 0 [] (by rw [hz1]; exact HO0.out) (some ad) cap
      clear hown0 hs
      have hq : ∀ W, (binOp .eql 23 (.slice (some ad) 0 cap) (.slice none 0 0)).run Try.prog W = .ok (.bool false) W := fun W => by kernel_rfl
      go_enter Try.func10, Try.ntmps10
      go_wp2_with fail
      go_ret
      exact ⟨_, rfl, HO0.out, HB0.out⟩
  · obtain ⟨hc, b, o, rfl, hr⟩ := hs (by omega)
    have HR := Lib.hid (range_below hr HB0.out)
    have HL := Lib.hid hl
    have H1 := Lib.hid h1
    clear hown0 hs hr hl h1
    have hq : ∀ W, (binOp .eql 23 (.slice (some ⟨b, o, none⟩) n cap) (.slice none 0 0)).run Try.prog W = .ok (.bool false) W := fun W => by kernel_rfl
    go_enter Try.func10, Try.ntmps10
    go_wp2_with (at_builtin; refine wpList_append_own _ rfl _ _ 23 rfl w.heap.size 36 i0 _ 35 72 Try.underlying23 hi hz0 hz1 hz2 (by kernel_rfl) (by decide) _ 0 [] rfl HO0.out ⟨b, o, none⟩ n cap xs rfl HL.out (fun j u hj => by rw [Addr.add_mid]; exact HR.out j u hj) H1.out (by unfold maxLen; omega) (by omega) (by simp) ?_; intro v' w2 ho hg _; have HO := Lib.hid ho; have HB := Lib.hid (HB0.out.grown hg HB0.out.size (fun k hk => by cases hk; exact Nat.le_refl _)); clear ho hg; go_frame)
    go_ret
    refine ⟨_, rfl, ?_, HB.out⟩
    have h := HO.out
    rw [Nat.zero_add, List.nil_append] at h
    exact h
set_option maxHeartbeats 1000000 in
set_option maxRecDepth 100000 in
theorem clone_rowO (n : Nat) (xs : List Value) (v : Value) (w : World) (hv : ∃ sp cap, v = .slice sp n cap ∧ (0 < n → n ≤ cap ∧ ∃ b o, sp = some ⟨b, o, none⟩ ∧ w.rangeAt b o xs)) (hl : xs.length = n * 33) (h1 : ∀ u ∈ xs, u.oneCell' = true) (hn : n ≤ 1000000) :
    Calls Try.prog 12 #[v] w fun e w' => ∃ v', e = .returned v' ∧ w'.ownsRow w.heap.size 39 33 v' n xs ∧ Below w.heap.size w w' := by
  obtain ⟨i0, hi, hz0, hz1, hz2⟩ := info_parts info_out
  obtain ⟨sp, cap, rfl, hs⟩ := hv
  have hown0 : (w.alloc (.cells #[] 39)).ownsRow w.heap.size 39 33 (.slice (some ⟨w.heap.size, 0, none⟩) 0 0) 0 [] := World.ownsRow_lit w #[] 0 (Nat.le_refl _) (by unfold maxLen; omega) rfl
  have HO0 := Lib.hid hown0
  have HB0 := Lib.hid ((Below.refl w.heap.size w).alloc (Nat.le_refl _) (.cells #[] 39 (0, 0)))
  by_cases h0 : n = 0
  · subst h0
    obtain rfl : xs = [] := List.eq_nil_of_length_eq_zero (by omega)
    cases sp with
    | none =>
      clear hown0 HO0 hs
      have hq : ∀ W, (binOp .eql 24 (.slice none 0 cap) (.slice none 0 0)).run Try.prog W = .ok (.bool true) W := fun W => by kernel_rfl
      go_enter Try.func12, Try.ntmps12
      go_wp2_with fail
      go_ret
      exact ⟨_, rfl, World.ownsRow_nil w _ _ _, Below.refl _ _⟩
    | some ad =>
      have hap : ∀ ty, (Builtin.append_ #[24, 24] ty #[.slice (some ⟨w.heap.size, 0, none⟩) 0 0, .slice (some ad) 0 cap]).run Try.prog (w.alloc (.cells #[] 39)) = .ok (.slice (some ⟨w.heap.size, 0, none⟩) 0 0) (w.alloc (.cells #[] 39)) := fun ty =>
        run_append_src0 w.heap.size 24 ty 39 i0 Try.underlying24 hi w.heap.size 0 0 [] (by rw [hz1]; exact HO0.out) (some ad) cap
      clear hown0 hs
      have hq : ∀ W, (binOp .eql 24 (.slice (some ad) 0 cap) (.slice none 0 0)).run Try.prog W = .ok (.bool false) W := fun W => by kernel_rfl
      go_enter Try.func12, Try.ntmps12
      go_wp2_with fail
      go_ret
      exact ⟨_, rfl, HO0.out, HB0.out⟩
  · obtain ⟨hc, b, o, rfl, hr⟩ := hs (by omega)
    have HR := Lib.hid (range_below hr HB0.out)
    have HL := Lib.hid hl
    have H1 := Lib.hid h1
    clear hown0 hs hr hl h1
    have hq : ∀ W, (binOp .eql 24 (.slice (some ⟨b, o, none⟩) n cap) (.slice none 0 0)).run Try.prog W = .ok (.bool false) W := fun W => by kernel_rfl
    go_enter Try.func12, Try.ntmps12
    go_wp2_with (at_builtin; refine wpList_append_own _ rfl _ _ 24 rfl w.heap.size 39 i0 _ 33 40 Try.underlying24 hi hz0 hz1 hz2 (by kernel_rfl) (by decide) _ 0 [] rfl HO0.out ⟨b, o, none⟩ n cap xs rfl HL.out (fun j u hj => by rw [Addr.add_mid]; exact HR.out j u hj) H1.out (by unfold maxLen; omega) (by omega) (by simp) ?_; intro v' w2 ho hg _; have HO := Lib.hid ho; have HB := Lib.hid (HB0.out.grown hg HB0.out.size (fun k hk => by cases hk; exact Nat.le_refl _)); clear ho hg; go_frame)
    go_ret
    refine ⟨_, rfl, ?_, HB.out⟩
    have h := HO.out
    rw [Nat.zero_add, List.nil_append] at h
    exact h
theorem insL_read {w : World} {b : Nat} : ∀ (l : List TIn) (ks : List Value) (o : Nat), l.length = ks.length → InsOk l → (∀ (i : Nat) x kv, l[i]? = some x → ks[i]? = some kv → w.rangeAt b (o + i * 35) (inL x kv)) → w.rangeAt b o (insL l ks)
  | [], [], _, _, _, _ => fun j v hj => by simp [insL] at hj
  | x :: l, kv :: ks, o, h, hok, hr => fun j v hj => by
    have e := inL_length x kv (hok x List.mem_cons_self).1
    rw [insL] at hj
    by_cases h35 : j < 35
    · rw [List.getElem?_append_left (by omega)] at hj
      have := hr 0 x kv rfl rfl j v hj
      simpa using this
    · rw [List.getElem?_append_right (by omega), e] at hj
      have ih := insL_read l ks (o + 35) (by simpa using h) (fun z hz => hok z (List.mem_cons_of_mem _ hz)) (fun i y kw hy hk => by
        have := hr (i + 1) y kw (by simpa using hy) (by simpa using hk)
        rw [show o + 35 + i * 35 = o + (i + 1) * 35 by omega]
        exact this) (j - 35) v hj
      rw [show o + 35 + (j - 35) = o + j by omega] at ih
      exact ih
theorem outsL_read {w : World} {b : Nat} : ∀ (l : List TOut) (o : Nat), OutsOk l → (∀ (i : Nat) y, l[i]? = some y → w.rangeAt b (o + i * 33) (outL y)) → w.rangeAt b o (outsL l)
  | [], _, _, _ => fun j v hj => by simp [outsL] at hj
  | y :: l, o, hok, hr => fun j v hj => by
    have e := outL_length y (hok y List.mem_cons_self).1
    rw [outsL, List.flatMap_cons] at hj
    by_cases h33 : j < 33
    · rw [List.getElem?_append_left (by omega)] at hj
      have := hr 0 y rfl j v hj
      simpa using this
    · rw [List.getElem?_append_right (by omega), e] at hj
      have ih := outsL_read l (o + 33) (fun z hz => hok z (List.mem_cons_of_mem _ hz)) (fun i z hz => by
        have := hr (i + 1) z (by simpa using hz)
        rw [show o + 33 + i * 33 = o + (i + 1) * 33 by omega]
        exact this) (j - 33) v hj
      rw [show o + 33 + (j - 33) = o + j by omega] at ih
      exact ih
theorem insL_ones : ∀ (l : List TIn) (ks : List Value), (∀ kv ∈ ks, kv.oneCell' = true) → ∀ u ∈ insL l ks, u.oneCell' = true
  | [], _, _, u, hu => by simp [insL] at hu
  | _ :: _, [], _, u, hu => by simp [insL] at hu
  | x :: l, kv :: ks, hk, u, hu => by
    rw [insL] at hu
    rcases List.mem_append.1 hu with h | h
    · exact in_mem_one x kv (hk kv List.mem_cons_self) u h
    · exact insL_ones l ks (fun k h => hk k (List.mem_cons_of_mem _ h)) u h
theorem outsL_ones (l : List TOut) : ∀ u ∈ outsL l, u.oneCell' = true := fun u hu => by
  obtain ⟨y, _, h⟩ := List.mem_flatMap.1 hu
  exact out_mem_one y u h
/-- A row of inputs that came in: the keys' slices. -/
theorem insAt_keys {w : World} {v : Value} {l : List TIn} (h : InsAt w v l) : ∃ ks : List Value, l.length = ks.length ∧ InsOk l ∧ (∀ (i : Nat) x kv, l[i]? = some x → ks[i]? = some kv → KeyAt w kv x.key)
    ∧ ∃ sp cap, v = .slice sp l.length cap ∧ (0 < l.length → l.length ≤ cap ∧ ∃ b o, sp = some ⟨b, o, none⟩ ∧ w.rangeAt b o (insL l ks)) := by
  obtain ⟨sp, cap, hv, hc, he⟩ := h
  by_cases h0 : l = []
  · subst h0
    exact ⟨[], rfl, fun _ h => absurd h (by simp), fun i x kv h => absurd h (by simp), sp, cap, hv, fun h => absurd h (by simp)⟩
  · obtain ⟨b, o, hs, he⟩ := he (List.length_pos_iff.2 h0)
    obtain ⟨ks, hl, hk⟩ := list_of_each (p := fun i kv => ∀ x, l[i]? = some x → KeyAt w kv x.key ∧ w.rangeAt b (o + i * 35) (inL x kv)) l.length (fun i hi => by
      obtain ⟨_, kv, h1, h2⟩ := he i _ (List.getElem?_eq_getElem hi)
      exact ⟨kv, fun x hx => by
        rw [List.getElem?_eq_getElem hi] at hx
        cases hx
        exact ⟨h1, h2⟩⟩)
    have hok : InsOk l := fun x hx => by
      obtain ⟨i, hi⟩ := List.getElem?_of_mem hx
      exact (he i x hi).1
    exact ⟨ks, hl.symm, hok, fun i x kv hx hkv => (hk i kv hkv x hx).1, sp, cap, hv, fun _ => ⟨hc, b, o, hs, insL_read l ks o hl.symm hok (fun i x kv hx hkv => (hk i kv hkv x hx).2)⟩⟩
theorem keys_ones {w : World} {l : List TIn} {ks : List Value} (hl : l.length = ks.length) (h : ∀ (i : Nat) x kv, l[i]? = some x → ks[i]? = some kv → KeyAt w kv x.key) : ∀ kv ∈ ks, kv.oneCell' = true := fun kv hk => by
  obtain ⟨i, hi⟩ := List.getElem?_of_mem hk
  have := (List.getElem?_eq_some_iff.1 hi).1
  obtain ⟨_, sp, cap, e⟩ := h i _ kv (List.getElem?_eq_getElem (by omega)) hi
  rw [e]
  rfl
theorem insL_set : ∀ (l : List TIn) (ks : List Value) (k : Nat) (kv : Value), l.length = ks.length → InsOk l → k < l.length → insL l (ks.set k kv) = (insL l ks).set (k * 35 + 33) kv
  | x :: l, k0 :: ks, 0, kv, h, hok, hk => by
    have e := (hok x List.mem_cons_self).1
    rw [List.set_cons_zero, insL, insL, List.set_append_left _ _ (by rw [inL_length x k0 e]; omega)]
    congr 1
    rw [inL, inL, List.set_append_right _ _ (by simp [ptL, e])]
    simp [ptL, e]
  | x :: l, k0 :: ks, k + 1, kv, h, hok, hk => by
    have e := inL_length x k0 (hok x List.mem_cons_self).1
    rw [List.set_cons_succ, insL, insL, List.set_append_right _ _ (by omega), e, show (k + 1) * 35 + 33 - 35 = k * 35 + 33 by omega,
      insL_set l ks k kv (by simpa using h) (fun z hz => hok z (List.mem_cons_of_mem _ hz)) (by simpa using hk)]
theorem wp_store_own {P : Program} {op : Oper} {a : Act} {w : World} {K : Act → World → Prop} {Q : Exit → Act → World → Prop} (ty : TypeId) (x y : Operand) (ho : op.op = .store ty x y)
    (g j base size n cap : Nat) (e : TypeId) (xs : List Value) (v : Value) (hx : a.eval x = .pointer (some ⟨g, j, none⟩)) (hy : a.eval y = v) (h1 : v.oneCell' = true) (hi : (P.info? ty).map (·.size) = some 1)
    (hown : w.ownsRow base e size (.slice (some ⟨g, 0, none⟩) n cap) n xs) (hj : j < n * size)
    (h : ∀ w', w'.ownsRow base e size (.slice (some ⟨g, 0, none⟩) n cap) n (xs.set j v) → w.grownBy w' (some g) → K (a.put op.dst undef) w') : op.wp P a w K Q := by
  rcases hown.2 with ⟨h', _⟩ | ⟨g', cap', cur, h', hb, hg, hnc, hcm, hcs, htake⟩
  · simp at h'
  simp only [Value.slice.injEq, Option.some.injEq, Addr.mk.injEq, and_true, true_and] at h'
  obtain ⟨rfl, rfl⟩ := h'
  have hjc : j < cur.toList.length := by
    rw [Array.length_toList, hcs]
    exact Nat.lt_of_lt_of_le hj (Nat.mul_le_mul_right _ hnc)
  have hsplit : cur.toList = cur.toList.take j ++ [cur.toList[j]] ++ cur.toList.drop (j + 1) := by
    rw [List.append_assoc, List.singleton_append, ← List.drop_eq_getElem_cons hjc, List.take_append_drop]
  have hset : (cur.toList.take j ++ [v] ++ cur.toList.drop (j + 1)) = cur.toList.set j v := by
    rw [List.append_assoc, List.singleton_append, List.set_eq_take_append_cons_drop, if_pos hjc]
  refine wp_store_part ty x y ho g j (cur.toList.take j) [cur.toList[j]] (cur.toList.drop (j + 1)) [v] e v hx hy (cells_one h1) (by rw [List.length_take]; omega) rfl (by rw [← hsplit, Array.toArray_toList]; exact hg) hi (one_mem h1) ?_
  intro w' q1 q2
  refine h w' ⟨by rw [List.length_set]; exact hown.1, .inr ⟨g, cap, _, rfl, hb, q1, hnc, hcm, ?_, ?_⟩⟩ q2
  · rw [hset]
    simpa using hcs
  · rw [hset, ← htake]
    simp [List.take_set]
end Go.Proofs.Ytkabpbclmhmgfaa.Sha
