/-
  Texts of this proof joined into one file: TxCloneA, KdRow, KdSt, BlCloneA, TxCloneW, BlCloneB. What each holds, and under which conditions, its own first sentence tells.
-/
import Derived.Test.YtcghbogkplcohaaDoorMg07
import Derived.Test.YtcghbogkplcohaaDoorMg01
import Derived.Test.YtcghbogkplcohaaDoorMg05
import Derived.Test.YtcghbogkplcohaaDoorMg14
import Derived.Test.YtcghbogkplcohaaDoorMg08
import Derived.Test.YtcghbogkplcohaaDoorMg12
import Derived.Test.YtcghbogkplcohaaDoorMg06
/-
  slices.Clone copies rows of inputs and of outputs; a cell of a row of one's own is stored into. Conditions: the rows lie in memory; fewer than a million.
-/
namespace Go.Proofs.YtcghbogkplcohaaDoor.Sha
open Go Go.RowKit
set_option maxHeartbeats 1000000 in
set_option maxRecDepth 100000 in
theorem clone_rowI (n : Nat) (xs : List Value) (v : Value) (w : World) (hv : ∃ sp cap, v = .slice sp n cap ∧ (0 < n → n ≤ cap ∧ ∃ b o, sp = some ⟨b, o, none⟩ ∧ w.rangeAt b o xs)) (hl : xs.length = n * 35) (h1 : ∀ u ∈ xs, u.oneCell' = true) (hn : n ≤ 1000000) :
    Calls Tryd.prog 36 #[v] w fun e w' => ∃ v', e = .returned v' ∧ w'.ownsRow w.heap.size 42 35 v' n xs ∧ Below w.heap.size w w' := by
  obtain ⟨i0, hi, hz0, hz1, hz2⟩ := info_parts info_in
  obtain ⟨sp, cap, rfl, hs⟩ := hv
  have hown0 : (w.alloc (.cells #[] 42)).ownsRow w.heap.size 42 35 (.slice (some ⟨w.heap.size, 0, none⟩) 0 0) 0 [] := World.ownsRow_lit w #[] 0 (Nat.le_refl _) (by unfold maxLen; omega) rfl
  have HO0 := Lib.hid hown0
  have HB0 := Lib.hid ((Below.refl w.heap.size w).alloc (Nat.le_refl _) (.cells #[] 42 (0, 0)))
  by_cases h0 : n = 0
  · subst h0
    obtain rfl : xs = [] := List.eq_nil_of_length_eq_zero (by omega)
    cases sp with
    | none =>
      clear hown0 HO0 hs
      have hq : ∀ W, (binOp .eql 29 (.slice none 0 cap) (.slice none 0 0)).run Tryd.prog W = .ok (.bool true) W := fun W => by kernel_rfl
      go_enter Tryd.func36, Tryd.ntmps36
      go_wp2_with fail
      go_ret
      exact ⟨_, rfl, World.ownsRow_nil w _ _ _, Below.refl _ _⟩
    | some ad =>
      have hap : ∀ ty, (Builtin.append_ #[29, 29] ty #[.slice (some ⟨w.heap.size, 0, none⟩) 0 0, .slice (some ad) 0 cap]).run Tryd.prog (w.alloc (.cells #[] 42)) = .ok (.slice (some ⟨w.heap.size, 0, none⟩) 0 0) (w.alloc (.cells #[] 42)) := fun ty =>
        run_append_src0 w.heap.size 29 ty 42 i0 Tryd.underlying29 hi w.heap.size 0 0 [] (by rw [hz1]; exact HO0.out) (some ad) cap
      clear hown0 hs
      have hq : ∀ W, (binOp .eql 29 (.slice (some ad) 0 cap) (.slice none 0 0)).run Tryd.prog W = .ok (.bool false) W := fun W => by kernel_rfl
      go_enter Tryd.func36, Tryd.ntmps36
      go_wp2_with fail
      go_ret
      exact ⟨_, rfl, HO0.out, HB0.out⟩
  · obtain ⟨hc, b, o, rfl, hr⟩ := hs (by omega)
    have HR := Lib.hid (range_below hr HB0.out)
    have HL := Lib.hid hl
    have H1 := Lib.hid h1
    clear hown0 hs hr hl h1
    have hq : ∀ W, (binOp .eql 29 (.slice (some ⟨b, o, none⟩) n cap) (.slice none 0 0)).run Tryd.prog W = .ok (.bool false) W := fun W => by kernel_rfl
    go_enter Tryd.func36, Tryd.ntmps36
    go_wp2_with (at_builtin; refine wpList_append_own _ rfl _ _ 29 rfl w.heap.size 42 i0 _ 35 72 Tryd.underlying29 hi hz0 hz1 hz2 (by kernel_rfl) (by decide) _ 0 [] rfl HO0.out ⟨b, o, none⟩ n cap xs rfl HL.out (fun j u hj => by rw [Addr.add_mid]; exact HR.out j u hj) H1.out (by unfold maxLen; omega) (by omega) (by simp) ?_; intro v' w2 ho hg _; have HO := Lib.hid ho; have HB := Lib.hid (HB0.out.grown hg HB0.out.size (fun k hk => by cases hk; exact Nat.le_refl _)); clear ho hg; go_frame)
    go_ret
    refine ⟨_, rfl, ?_, HB.out⟩
    have h := HO.out
    rw [Nat.zero_add, List.nil_append] at h
    exact h
set_option maxHeartbeats 1000000 in
set_option maxRecDepth 100000 in
theorem clone_rowO (n : Nat) (xs : List Value) (v : Value) (w : World) (hv : ∃ sp cap, v = .slice sp n cap ∧ (0 < n → n ≤ cap ∧ ∃ b o, sp = some ⟨b, o, none⟩ ∧ w.rangeAt b o xs)) (hl : xs.length = n * 33) (h1 : ∀ u ∈ xs, u.oneCell' = true) (hn : n ≤ 1000000) :
    Calls Tryd.prog 38 #[v] w fun e w' => ∃ v', e = .returned v' ∧ w'.ownsRow w.heap.size 44 33 v' n xs ∧ Below w.heap.size w w' := by
  obtain ⟨i0, hi, hz0, hz1, hz2⟩ := info_parts info_out
  obtain ⟨sp, cap, rfl, hs⟩ := hv
  have hown0 : (w.alloc (.cells #[] 44)).ownsRow w.heap.size 44 33 (.slice (some ⟨w.heap.size, 0, none⟩) 0 0) 0 [] := World.ownsRow_lit w #[] 0 (Nat.le_refl _) (by unfold maxLen; omega) rfl
  have HO0 := Lib.hid hown0
  have HB0 := Lib.hid ((Below.refl w.heap.size w).alloc (Nat.le_refl _) (.cells #[] 44 (0, 0)))
  by_cases h0 : n = 0
  · subst h0
    obtain rfl : xs = [] := List.eq_nil_of_length_eq_zero (by omega)
    cases sp with
    | none =>
      clear hown0 HO0 hs
      have hq : ∀ W, (binOp .eql 30 (.slice none 0 cap) (.slice none 0 0)).run Tryd.prog W = .ok (.bool true) W := fun W => by kernel_rfl
      go_enter Tryd.func38, Tryd.ntmps38
      go_wp2_with fail
      go_ret
      exact ⟨_, rfl, World.ownsRow_nil w _ _ _, Below.refl _ _⟩
    | some ad =>
      have hap : ∀ ty, (Builtin.append_ #[30, 30] ty #[.slice (some ⟨w.heap.size, 0, none⟩) 0 0, .slice (some ad) 0 cap]).run Tryd.prog (w.alloc (.cells #[] 44)) = .ok (.slice (some ⟨w.heap.size, 0, none⟩) 0 0) (w.alloc (.cells #[] 44)) := fun ty =>
        run_append_src0 w.heap.size 30 ty 44 i0 Tryd.underlying30 hi w.heap.size 0 0 [] (by rw [hz1]; exact HO0.out) (some ad) cap
      clear hown0 hs
      have hq : ∀ W, (binOp .eql 30 (.slice (some ad) 0 cap) (.slice none 0 0)).run Tryd.prog W = .ok (.bool false) W := fun W => by kernel_rfl
      go_enter Tryd.func38, Tryd.ntmps38
      go_wp2_with fail
      go_ret
      exact ⟨_, rfl, HO0.out, HB0.out⟩
  · obtain ⟨hc, b, o, rfl, hr⟩ := hs (by omega)
    have HR := Lib.hid (range_below hr HB0.out)
    have HL := Lib.hid hl
    have H1 := Lib.hid h1
    clear hown0 hs hr hl h1
    have hq : ∀ W, (binOp .eql 30 (.slice (some ⟨b, o, none⟩) n cap) (.slice none 0 0)).run Tryd.prog W = .ok (.bool false) W := fun W => by kernel_rfl
    go_enter Tryd.func38, Tryd.ntmps38
    go_wp2_with (at_builtin; refine wpList_append_own _ rfl _ _ 30 rfl w.heap.size 44 i0 _ 33 40 Tryd.underlying30 hi hz0 hz1 hz2 (by kernel_rfl) (by decide) _ 0 [] rfl HO0.out ⟨b, o, none⟩ n cap xs rfl HL.out (fun j u hj => by rw [Addr.add_mid]; exact HR.out j u hj) H1.out (by unfold maxLen; omega) (by omega) (by simp) ?_; intro v' w2 ho hg _; have HO := Lib.hid ho; have HB := Lib.hid (HB0.out.grown hg HB0.out.size (fun k hk => by cases hk; exact Nat.le_refl _)); clear ho hg; go_frame)
    go_ret
    refine ⟨_, rfl, ?_, HB.out⟩
    have h := HO.out
    rw [Nat.zero_add, List.nil_append] at h
    exact h
theorem insL_read {w : World} {b : Nat} : ∀ (l : List TIn) (ks : List Value) (o : Nat), l.length = ks.length → InsOk l → (∀ (i : Nat) x kv, l[i]? = some x → ks[i]? = some kv → w.rangeAt b (o + i * 35) (inL x kv)) → w.rangeAt b o (insL l ks)
  | [], [], _, _, _, _ => fun j v hj => by simp [insL] at hj
  | x :: l, kv :: ks, o, h, hok, hr => fun j v hj => by
    have e := inL_length x kv (hok x List.mem_cons_self).1
    rw [insL] at hj
    by_cases h35 : j < 35
    · rw [List.getElem?_append_left (by omega)] at hj
      have := hr 0 x kv rfl rfl j v hj
      simpa using this
    · rw [List.getElem?_append_right (by omega), e] at hj
      have ih := insL_read l ks (o + 35) (by simpa using h) (fun z hz => hok z (List.mem_cons_of_mem _ hz)) (fun i y kw hy hk => by
        have := hr (i + 1) y kw (by simpa using hy) (by simpa using hk)
        rw [show o + 35 + i * 35 = o + (i + 1) * 35 by omega]
        exact this) (j - 35) v hj
      rw [show o + 35 + (j - 35) = o + j by omega] at ih
      exact ih
theorem outsL_read {w : World} {b : Nat} : ∀ (l : List TOut) (o : Nat), OutsOk l → (∀ (i : Nat) y, l[i]? = some y → w.rangeAt b (o + i * 33) (outL y)) → w.rangeAt b o (outsL l)
  | [], _, _, _ => fun j v hj => by simp [outsL] at hj
  | y :: l, o, hok, hr => fun j v hj => by
    have e := outL_length y (hok y List.mem_cons_self).1
    rw [outsL, List.flatMap_cons] at hj
    by_cases h33 : j < 33
    · rw [List.getElem?_append_left (by omega)] at hj
      have := hr 0 y rfl j v hj
      simpa using this
    · rw [List.getElem?_append_right (by omega), e] at hj
      have ih := outsL_read l (o + 33) (fun z hz => hok z (List.mem_cons_of_mem _ hz)) (fun i z hz => by
        have := hr (i + 1) z (by simpa using hz)
        rw [show o + 33 + i * 33 = o + (i + 1) * 33 by omega]
        exact this) (j - 33) v hj
      rw [show o + 33 + (j - 33) = o + j by omega] at ih
      exact ih
theorem insL_ones : ∀ (l : List TIn) (ks : List Value), (∀ kv ∈ ks, kv.oneCell' = true) → ∀ u ∈ insL l ks, u.oneCell' = true
  | [], _, _, u, hu => by simp [insL] at hu
  | _ :: _, [], _, u, hu => by simp [insL] at hu
  | x :: l, kv :: ks, hk, u, hu => by
    rw [insL] at hu
    rcases List.mem_append.1 hu with h | h
    · exact in_mem_one x kv (hk kv List.mem_cons_self) u h
    · exact insL_ones l ks (fun k h => hk k (List.mem_cons_of_mem _ h)) u h
theorem outsL_ones (l : List TOut) : ∀ u ∈ outsL l, u.oneCell' = true := fun u hu => by
  obtain ⟨y, _, h⟩ := List.mem_flatMap.1 hu
  exact out_mem_one y u h
/-- A row of inputs that came in: the keys' slices. -/
theorem insAt_keys {w : World} {v : Value} {l : List TIn} (h : InsAt w v l) : ∃ ks : List Value, l.length = ks.length ∧ InsOk l ∧ (∀ (i : Nat) x kv, l[i]? = some x → ks[i]? = some kv → KeyAt w kv x.key)
    ∧ ∃ sp cap, v = .slice sp l.length cap ∧ (0 < l.length → l.length ≤ cap ∧ ∃ b o, sp = some ⟨b, o, none⟩ ∧ w.rangeAt b o (insL l ks)) := by
  obtain ⟨sp, cap, hv, hc, he⟩ := h
  by_cases h0 : l = []
  · subst h0
    exact ⟨[], rfl, fun _ h => absurd h (by simp), fun i x kv h => absurd h (by simp), sp, cap, hv, fun h => absurd h (by simp)⟩
  · obtain ⟨b, o, hs, he⟩ := he (List.length_pos_iff.2 h0)
    obtain ⟨ks, hl, hk⟩ := list_of_each (p := fun i kv => ∀ x, l[i]? = some x → KeyAt w kv x.key ∧ w.rangeAt b (o + i * 35) (inL x kv)) l.length (fun i hi => by
      obtain ⟨_, kv, h1, h2⟩ := he i _ (List.getElem?_eq_getElem hi)
      exact ⟨kv, fun x hx => by
        rw [List.getElem?_eq_getElem hi] at hx
        cases hx
        exact ⟨h1, h2⟩⟩)
    have hok : InsOk l := fun x hx => by
      obtain ⟨i, hi⟩ := List.getElem?_of_mem hx
      exact (he i x hi).1
    exact ⟨ks, hl.symm, hok, fun i x kv hx hkv => (hk i kv hkv x hx).1, sp, cap, hv, fun _ => ⟨hc, b, o, hs, insL_read l ks o hl.symm hok (fun i x kv hx hkv => (hk i kv hkv x hx).2)⟩⟩
theorem keys_ones {w : World} {l : List TIn} {ks : List Value} (hl : l.length = ks.length) (h : ∀ (i : Nat) x kv, l[i]? = some x → ks[i]? = some kv → KeyAt w kv x.key) : ∀ kv ∈ ks, kv.oneCell' = true := fun kv hk => by
  obtain ⟨i, hi⟩ := List.getElem?_of_mem hk
  have := (List.getElem?_eq_some_iff.1 hi).1
  obtain ⟨_, sp, cap, e⟩ := h i _ kv (List.getElem?_eq_getElem (by omega)) hi
  rw [e]
  rfl
theorem insL_set : ∀ (l : List TIn) (ks : List Value) (k : Nat) (kv : Value), l.length = ks.length → InsOk l → k < l.length → insL l (ks.set k kv) = (insL l ks).set (k * 35 + 33) kv
  | x :: l, k0 :: ks, 0, kv, h, hok, hk => by
    have e := (hok x List.mem_cons_self).1
    rw [List.set_cons_zero, insL, insL, List.set_append_left _ _ (by rw [inL_length x k0 e]; omega)]
    congr 1
    rw [inL, inL, List.set_append_right _ _ (by simp [ptL, e])]
    simp [ptL, e]
  | x :: l, k0 :: ks, k + 1, kv, h, hok, hk => by
    have e := inL_length x k0 (hok x List.mem_cons_self).1
    rw [List.set_cons_succ, insL, insL, List.set_append_right _ _ (by omega), e, show (k + 1) * 35 + 33 - 35 = k * 35 + 33 by omega,
      insL_set l ks k kv (by simpa using h) (fun z hz => hok z (List.mem_cons_of_mem _ hz)) (by simpa using hk)]
theorem wp_store_own {P : Program} {op : Oper} {a : Act} {w : World} {K : Act → World → Prop} {Q : Exit → Act → World → Prop} (ty : TypeId) (x y : Operand) (ho : op.op = .store ty x y)
    (g j base size n cap : Nat) (e : TypeId) (xs : List Value) (v : Value) (hx : a.eval x = .pointer (some ⟨g, j, none⟩)) (hy : a.eval y = v) (h1 : v.oneCell' = true) (hi : (P.info? ty).map (·.size) = some 1)
    (hown : w.ownsRow base e size (.slice (some ⟨g, 0, none⟩) n cap) n xs) (hj : j < n * size)
    (h : ∀ w', w'.ownsRow base e size (.slice (some ⟨g, 0, none⟩) n cap) n (xs.set j v) → w.grownBy w' (some g) → K (a.put op.dst undef) w') : op.wp P a w K Q := by
  rcases hown.2 with ⟨h', _⟩ | ⟨g', cap', cur, h', hb, hg, hnc, hcm, hcs, htake⟩
  · simp at h'
  simp only [Value.slice.injEq, Option.some.injEq, Addr.mk.injEq, and_true, true_and] at h'
  obtain ⟨rfl, rfl⟩ := h'
  have hjc : j < cur.toList.length := by
    rw [Array.length_toList, hcs]
    exact Nat.lt_of_lt_of_le hj (Nat.mul_le_mul_right _ hnc)
  have hsplit : cur.toList = cur.toList.take j ++ [cur.toList[j]] ++ cur.toList.drop (j + 1) := by
    rw [List.append_assoc, List.singleton_append, ← List.drop_eq_getElem_cons hjc, List.take_append_drop]
  have hset : (cur.toList.take j ++ [v] ++ cur.toList.drop (j + 1)) = cur.toList.set j v := by
    rw [List.append_assoc, List.singleton_append, List.set_eq_take_append_cons_drop, if_pos hjc]
  refine wp_store_part ty x y ho g j (cur.toList.take j) [cur.toList[j]] (cur.toList.drop (j + 1)) [v] e v hx hy (cells_one h1) (by rw [List.length_take]; omega) rfl (by rw [← hsplit, Array.toArray_toList]; exact hg) hi (one_mem h1) ?_
  intro w' q1 q2
  refine h w' ⟨by rw [List.length_set]; exact hown.1, .inr ⟨g, cap, _, rfl, hb, q1, hnc, hcm, ?_, ?_⟩⟩ q2
  · rw [hset]
    simpa using hcs
  · rw [hset, ← htake]
    simp [List.take_set]
end Go.Proofs.YtcghbogkplcohaaDoor.Sha

/-
  Changes in a row of transactions of one's own: a whole element, one cell, an element's own input. Conditions: those that each states.
-/
namespace Go.Proofs.YtcghbogkplcohaaDoor.Sha
open Go Go.RowKit
theorem esL_set4 : ∀ (es : List ETx) (i : Nat) (e' : ETx), i < es.length → esL (es.set i e') = (esL es).take (i * 4) ++ e'.cells ++ (esL es).drop (i * 4 + 4)
  | [], i, e', h => absurd h (by simp)
  | z :: es, 0, e', h => by
    show e'.cells ++ esL es = ((z.cells ++ esL es).take (0 * 4)) ++ e'.cells ++ (z.cells ++ esL es).drop (0 * 4 + 4)
    rw [Nat.zero_mul, List.take_zero, List.nil_append, show 0 + 4 = z.cells.length from rfl, List.drop_left]
  | z :: es, i + 1, e', h => by
    show z.cells ++ esL (es.set i e') = (z.cells ++ esL es).take ((i + 1) * 4) ++ e'.cells ++ (z.cells ++ esL es).drop ((i + 1) * 4 + 4)
    rw [esL_set4 es i e' (by simpa using h), show (i + 1) * 4 = z.cells.length + i * 4 by show _ = 4 + _; omega, List.take_length_add_append, Nat.add_assoc, List.drop_length_add_append]
    simp only [List.append_assoc]
theorem esL_same {es : List ETx} {i : Nat} {e e' : ETx} (he : es[i]? = some e) (hc : e'.cells = e.cells) : esL (es.set i e') = esL es := by
  rw [esL_set4 es i e' (List.getElem?_eq_some_iff.1 he).1, hc]
  have e1 : e.cells = ((esL es).drop (i * 4)).take 4 := by
    refine List.ext_getElem? fun j => ?_
    by_cases hj : j < 4
    · rw [List.getElem?_take_of_lt hj, List.getElem?_drop]
      exact (esL_get es i e he j hj).symm
    · rw [List.getElem?_eq_none (by show 4 ≤ j; omega), List.getElem?_eq_none (by rw [List.length_take]; omega)]
  rw [e1, List.append_assoc, ← List.drop_drop, List.take_append_drop, List.take_append_drop]
theorem own_kps2 {F : Nat → Prop} {w w' : World} {base n size g cap : Nat} {e : TypeId} {xs : List Value} (h : w.ownsRow base e size (.slice (some ⟨g, 0, none⟩) n cap) n xs) (hk : Kps F w w') (hf : F g) : w'.ownsRow base e size (.slice (some ⟨g, 0, none⟩) n cap) n xs := by
  refine ⟨h.1, ?_⟩
  rcases h.2 with ⟨hv, _⟩ | ⟨g', cap', cur, hv, hb, hg, rest⟩
  · cases hv
  · cases hv
    exact .inr ⟨g, cap, cur, rfl, hb, row_kps hg hk hf, rest⟩
/-- A whole element is stored. -/
theorem wp_store_el {P : Program} {op : Oper} {a : Act} {w : World} {K : Act → World → Prop} {Q : Exit → Act → World → Prop} (ty : TypeId) (x y : Operand) (ho : op.op = .store ty x y)
    (g i base cap : Nat) (e : TypeId) (es : List ETx) (e' : ETx) (hx : a.eval x = .pointer (some ⟨g, i * 4, none⟩)) (hy : a.eval y = .agg e'.cells.toArray) (h1 : ∀ u ∈ e'.cells, u.oneCell' = true) (hi : (P.info? ty).map (·.size) = some 4)
    (hown : w.ownsRow base e 4 (.slice (some ⟨g, 0, none⟩) es.length cap) es.length (esL es)) (hj : i < es.length)
    (h : ∀ w', w'.ownsRow base e 4 (.slice (some ⟨g, 0, none⟩) es.length cap) es.length (esL (es.set i e')) → w.grownBy w' (some g) → K (a.put op.dst undef) w') : op.wp P a w K Q := by
  rcases hown.2 with ⟨h', _⟩ | ⟨g', cap', cur, h', hb, hg, hnc, hcm, hcs, htake⟩
  · simp at h'
  simp only [Value.slice.injEq, Option.some.injEq, Addr.mk.injEq, and_true, true_and] at h'
  obtain ⟨rfl, rfl⟩ := h'
  obtain ⟨l, hl⟩ : ∃ l, l = cur.toList := ⟨_, rfl⟩
  have hll : l.length = cap * 4 := by rw [hl, Array.length_toList, hcs]
  have hjc : i * 4 + 4 ≤ l.length := by rw [hll]; omega
  have hsplit : l = l.take (i * 4) ++ (l.drop (i * 4)).take 4 ++ l.drop (i * 4 + 4) := by
    rw [List.append_assoc, ← List.drop_drop, List.take_append_drop, List.take_append_drop]
  rw [← hl] at htake
  refine wp_store_part ty x y ho g (i * 4) (l.take (i * 4)) ((l.drop (i * 4)).take 4) (l.drop (i * 4 + 4)) e'.cells e (.agg e'.cells.toArray) hx hy rfl (by rw [List.length_take]; omega) (by rw [List.length_take, List.length_drop]; show _ = 4; omega) (by rw [← hsplit, hl, Array.toArray_toList]; exact hg) hi h1 ?_
  intro w' q1 q2
  refine h w' ⟨by rw [esL_length, List.length_set], .inr ⟨g, cap, _, rfl, hb, q1, hnc, hcm, ?_, ?_⟩⟩ q2
  · have h4 : e'.cells.length = 4 := rfl
    simp only [List.size_toArray, List.length_append, List.length_take, List.length_drop, h4]
    omega
  · rw [esL_set4 es i e' hj, ← htake]
    have h4 : (l.take (i * 4) ++ e'.cells).length = i * 4 + 4 := by
      rw [List.length_append, List.length_take]
      show _ + 4 = _
      omega
    rw [List.toList_toArray, List.take_append, List.take_of_length_le (by rw [h4]; omega), h4, List.take_take, Nat.min_eq_left (by omega), List.drop_take]
/-- The same, by its number. -/
theorem wp_store_el2 {P : Program} {op : Oper} {a : Act} {w : World} {K : Act → World → Prop} {Q : Exit → Act → World → Prop} (ty : TypeId) (x y : Operand) (ho : op.op = .store ty x y)
    (g i base n cap : Nat) (e : TypeId) (es : List ETx) (e' : ETx) (hx : a.eval x = .pointer (some ⟨g, i * 4, none⟩)) (hy : a.eval y = .agg e'.cells.toArray) (h1 : ∀ u ∈ e'.cells, u.oneCell' = true) (hi : (P.info? ty).map (·.size) = some 4)
    (hown : w.ownsRow base e 4 (.slice (some ⟨g, 0, none⟩) n cap) n (esL es)) (hn : es.length = n) (hj : i < n)
    (h : ∀ w', w'.ownsRow base e 4 (.slice (some ⟨g, 0, none⟩) n cap) n (esL (es.set i e')) → w.grownBy w' (some g) → K (a.put op.dst undef) w') : op.wp P a w K Q := by
  subst hn
  exact wp_store_el ty x y ho g i base cap e es e' hx hy h1 hi hown hj h
end Go.Proofs.YtcghbogkplcohaaDoor.Sha

/-
  An append for which there is no room lays new memory; what stands while the statement on kinds makes its block. Conditions: those that each states.
-/
namespace Go.Proofs.YtcghbogkplcohaaDoor.Sha
open Go Go.RowKit
theorem wp_append_full {P : Program} (w : World) {o : Oper} {a : Act} {K : Act → World → Prop} {Q : Exit → Act → World → Prop} (s x : Operand) (t : TypeId)
    (ho : o.op = Op.call { callee := Callee.builtin Builtin.append, args := #[s, x], argTypes := #[t, t] })
    (e : TypeId) (i : TypeInfo) (z : Value) (size bytes : Nat) (ht : P.underlying t = some (.slice e)) (hi : P.info? e = some i) (hz : i.zero = some z)
    (hsize : i.size = size) (hby : i.bytes = bytes) (hzs : z.cells.size = size)
    (g n cap : Nat) (xs : List Value) (hs : a.eval s = .slice (some ⟨g, 0, none⟩) n cap) (hxl : xs.length = n * size) (holds : ∀ j u, xs[j]? = some u → w.cell? ((⟨g, 0, none⟩ : Addr).add j) = some u)
    (ad : Addr) (m c : Nat) (news : List Value) (hx : a.eval x = .slice (some ad) m c) (hl : news.length = m * size) (hnews : ∀ j u, news[j]? = some u → w.cell? (ad.add j) = some u)
    (hroom : cap < n + m) (h63 : n + m ≤ maxLen) (hbytes : (n + m) * bytes ≤ 140737488355328)
    (h : ∀ C w', w'.ownsRow w.heap.size e size (.slice (some ⟨w.heap.size, 0, none⟩) (n + m) C) (n + m) (xs ++ news) → Below w.heap.size w w' → K (a.put o.dst (.slice (some ⟨w.heap.size, 0, none⟩) (n + m) C)) w') : o.wp P a w K Q := by
  subst hsize
  subst hby
  have hsmall : n + m ≤ 9223372036854775807 := by simp only [maxLen] at h63; omega
  have hlen : (xs ++ news).length = (n + m) * i.size := by rw [List.length_append, hxl, hl, Nat.add_mul]
  have hr := run_append_grow (P := P) w t o.type e i z ht hi hz ⟨g, 0, none⟩ n cap xs hxl holds ad m c news hl hnews (by omega) (by omega) (growslice_fits (by omega) hbytes)
  have hge := grownCap_ge w (n + m) cap e
  have hcm : grownCap w (n + m) cap e ≤ maxLen := grownCap_le_maxLen w (n + m) cap e h63
  unfold Oper.wp execOp
  simp only [ho, resolve, invoke, builtin, Sem.run_bind, Sem.run_pure, Result.andThen_ok, List.map_toArray, List.map_cons, List.map_nil, hs, hx, hr]
  refine h _ _ ⟨hlen, .inr ⟨w.heap.size, _, _, rfl, Nat.le_refl _, heap_alloc_new w.drew _, hge, hcm, ?_, ?_⟩⟩ ⟨rfl, rfl, rfl, by simp, fun k hk => heap_alloc_old w.drew _ hk⟩
  · simp only [Array.size_append, List.size_toArray, size_zeroCells, hzs, hxl, hl, ← Nat.add_mul]
    congr 1
    omega
  · simp only [Array.toList_append, List.append_assoc]
    rw [← List.append_assoc, ← hlen]
    exact List.take_left
def kdHd : THd := ⟨0, zH, zH, 0, 1, 0⟩
def PD (e : ETx) (W : World) : Prop := InsAt W e.iv e.t.ins ∧ OutsAt W e.ov e.t.outs
/-- An element out of a literal: a row of one input in a block of its own. -/
def KdR (e : ETx) (W : World) : Prop := ∃ gi go x y, e.iv = .slice (some ⟨gi, 0, none⟩) 1 1 ∧ e.ov = .slice (some ⟨go, 0, none⟩) 1 1 ∧ e.t.ins = [x] ∧ e.t.outs = [y] ∧ OutOk y ∧ W.heap[gi]? = some (.cells (inL x (.slice none 0 0)).toArray 42 (0, 0)) ∧ W.heap[go]? = some (.cells (outL y).toArray 44 (0, 0)) ∧ e.lo ≤ gi ∧ gi < go ∧ go < e.hi
def PK (e : ETx) (W : World) : Prop := PD e W ∧ (baseB e.t = false → KdR e W)
structure KdB (base g8 : Nat) (hd : THd) (vb v : Value) (es : List ETx) (w0 W : World) : Prop where
  bel : Below w0.heap.size w0 W
  box : BlBox W g8 hd vb
  row : RowT PK base W v es
  vo : v.ownBlock ≠ some g8
  off : ∀ e ∈ es, g8 < e.lo ∨ e.hi ≤ g8
  wb : w0.heap.size ≤ base
  bg : base ≤ g8
  los : ∀ e ∈ es, base ≤ e.lo
section
variable {base g8 : Nat} {hd : THd} {vb v v' : Value} {es : List ETx} {e : ETx} {w0 W W' : World}
theorem KdB.low (h : KdB base g8 hd vb v es w0 W) : base ≤ W.heap.size := Nat.le_trans h.bg (Nat.le_of_lt h.box.lt)
theorem KdB.lt (h : KdB base g8 hd vb v es w0 W) : g8 < W.heap.size := h.box.lt
theorem KdB.below (h : KdB base g8 hd vb v es w0 W) (hb : Below W.heap.size W W') : KdB base g8 hd vb v es w0 W' :=
  ⟨h.bel.trans (hb.mono h.bel.size), h.box.below hb, h.row.keep hb, h.vo, h.off, h.wb, h.bg, h.los⟩
theorem KdB.push (h : KdB base g8 hd vb v es w0 W) (ok : TxOk e.t) (hi : e.hi ≤ W.heap.size) (st : Sty (fun k => e.lo ≤ k ∧ k < e.hi) W (PK e)) (ha : ∀ a ∈ es, a.hi ≤ e.lo) (ho : ∀ q, v.ownBlock = some q → q < e.lo) (hg : g8 < e.lo)
    (ao : W'.ownsRow base 32 4 v' (es.length + 1) (esL es ++ e.cells)) (ag : W.grownBy W' v.ownBlock) (at' : v'.ownBlock = v.ownBlock ∨ v'.ownBlock = some W.heap.size) : KdB base g8 hd vb v' (es ++ [e]) w0 W' := by
  refine ⟨h.bel.grown ag h.bel.size (fun k hk => Nat.le_trans h.wb (h.row.own.lt k hk).1), h.box.far ag h.vo, h.row.push ok hi st ha (fun q hq => .inl (ho q hq)) ao ag at', fun e2 => ?_, fun a ha => ?_, h.wb, h.bg, fun a ha => ?_⟩
  · rcases at' with e3 | e3
    · exact h.vo (by rw [← e3]; exact e2)
    · rw [e3] at e2
      have := Option.some.inj e2
      have := h.lt
      omega
  · rcases List.mem_append.1 ha with ha | ha
    · exact h.off a ha
    · rw [List.mem_singleton.1 ha]
      exact .inl hg
  · rcases List.mem_append.1 ha with ha | ha
    · exact h.los a ha
    · rw [List.mem_singleton.1 ha]
      exact Nat.le_trans h.bg (Nat.le_of_lt hg)
theorem KdB.store (h : KdB base g8 hd vb v es w0 W) (hb : BlBox W' g8 hd v) (g : W.grownBy W' (some g8)) : KdB base g8 hd v v es w0 W' :=
  ⟨h.bel.grown g h.bel.size (fun k hk => by cases hk; exact Nat.le_trans h.wb h.bg), hb, h.row.far g (.inr h.vo) (fun k hk e he => by
    have := Option.some.inj hk
    have := h.off e he
    omega), h.vo, h.off, h.wb, h.bg, h.los⟩
end
/-- An element out of a literal, laid in two blocks. -/
theorem kd_el {W : World} {gi go k : Nat} (hi : W.heap[gi]? = some (.cells (inL (kdX k) (.slice none 0 0)).toArray 42 (0, 0))) (ho : W.heap[go]? = some (.cells (outL ⟨0, zH⟩).toArray 44 (0, 0))) (hlt : gi < go) (hk : k ≤ 4294967295) :
    Sty (fun j => gi ≤ j ∧ j < go + 1) W (PK ⟨kdT k, .slice (some ⟨gi, 0, none⟩) 1 1, .slice (some ⟨go, 0, none⟩) 1 1, gi, go + 1⟩) := fun U hU => by
  have r1 := row_kps hi hU ⟨Nat.le_refl _, by omega⟩
  have r2 := row_kps ho hU ⟨by omega, by omega⟩
  exact ⟨⟨insAt_one r1 (kdT_ok k hk).2 (nil_key _), outsAt_one r2 ⟨rfl, by show 0 ≤ _; omega⟩⟩, fun _ => ⟨gi, go, kdX k, ⟨0, zH⟩, rfl, rfl, rfl, rfl, ⟨rfl, by show 0 ≤ _; omega⟩, r1, r2, Nat.le_refl _, hlt, by show go < go + 1; omega⟩⟩
theorem kd_ones (k gi go : Nat) : ∀ u ∈ txL (kdT k) (.slice (some ⟨gi, 0, none⟩) 1 1) (.slice (some ⟨go, 0, none⟩) 1 1), u.oneCell' = true := by
  intro u hu
  simp only [txL, List.mem_cons, List.not_mem_nil, or_false] at hu
  rcases hu with rfl | rfl | rfl | rfl <;> rfl
/-- The first one, newly made. -/
theorem kd_first {W W' : World} {u : Value} {t : TTx} (hb : baseB t = true) (st : TxNew W W' u t) : ∃ e : ETx, e.t = t ∧ u = .agg e.cells.toArray ∧ TxOk e.t ∧ e.lo = W.heap.size ∧ e.hi = W'.heap.size ∧ Sty (fun k => e.lo ≤ k ∧ k < e.hi) W' (PK e) := by
  obtain ⟨hok, iv, ov, hu, _, _⟩ := st.now
  refine ⟨⟨t, iv, ov, W.heap.size, W'.heap.size⟩, rfl, hu, hok, rfl, rfl, st.imp (fun k hk hl => ⟨hl, hk⟩) (fun U hU => ?_)⟩
  obtain ⟨_, iv', ov', e', h1, h2⟩ := hU
  rw [hu] at e'
  have e' : txL t iv ov = txL t iv' ov' := by simpa using e'
  simp only [txL, List.cons.injEq] at e'
  obtain ⟨_, rfl, rfl, _⟩ := e'
  exact ⟨⟨h1, h2⟩, fun h => absurd (hb.symm.trans h) (by simp)⟩
/-- One element alone. -/
theorem kd_row1 {base g : Nat} {W : World} {e : ETx} (hr : W.heap[g]? = some (.cells e.cells.toArray 32 (0, 0))) (hb : base ≤ g) (ok : TxOk e.t) (hi : e.hi ≤ g) (st : Sty (fun k => e.lo ≤ k ∧ k < e.hi) W (PK e)) : RowT PK base W (.slice (some ⟨g, 0, none⟩) 1 1) [e] := by
  have hlt := (Array.getElem?_eq_some_iff.1 hr).1
  refine ⟨?_, fun a ha => ?_, List.pairwise_singleton _ _, fun q hq a ha => ?_⟩
  · have h := own_of_row (base := base) (n := 1) (size := 4) hr hb rfl (by unfold maxLen; omega)
    simpa [esL] using h
  · rw [List.mem_singleton.1 ha]
    exact ⟨ok, Nat.le_trans hi (Nat.le_of_lt hlt), st⟩
  · rw [List.mem_singleton.1 ha]
    have hgq : g = q := Option.some.inj hq
    exact .inr (by omega)
/-- The block as it is then. -/
def KdD (g8 gw k cap : Nat) (ts : List TTx) (w0 W : World) : Prop := Below w0.heap.size w0 W ∧ BlBox W g8 kdHd (.slice (some ⟨gw, 0, none⟩) k cap) ∧ Sty (fun j => j ≠ g8) W (fun U => TxsAt U (.slice (some ⟨gw, 0, none⟩) k cap) ts)
theorem kd_map {es : List ETx} {e' : ETx} {k a how : Nat} (h : es.map (·.t) = kdL k) (he : e'.t = kdW how a (kdAt k a)) : (es.set a e').map (·.t) = kdC k a how := by
  rw [List.map_set, h, he]
  rfl
theorem kd_same {k a how : Nat} (ha : a < k) (h : kdW how a (kdAt k a) = kdAt k a) : kdC k a how = kdL k := by
  unfold kdC
  rw [h]
  refine List.ext_getElem? fun i => ?_
  rw [List.getElem?_set]
  split
  · rename_i e
    subst e
    rw [kdL_get ha, if_pos (by rw [kdL_length k (by omega)]; exact ha)]
  · rfl
section
variable {base g8 gw k cap : Nat} {es : List ETx} {w0 W W' : World}
theorem KdB.at3 (h : KdB base g8 kdHd (.slice (some ⟨gw, 0, none⟩) k cap) (.slice (some ⟨gw, 0, none⟩) k cap) es w0 W) : gw ≠ g8 ∧ base ≤ gw ∧ gw < W.heap.size := ⟨fun e => h.vo (by rw [e]; rfl), (h.row.own.lt gw rfl).1, (h.row.own.lt gw rfl).2⟩
theorem KdB.own (h : KdB base g8 kdHd (.slice (some ⟨gw, 0, none⟩) k cap) (.slice (some ⟨gw, 0, none⟩) k cap) es w0 W) (hk : es.length = k) : W.ownsRow base 32 4 (.slice (some ⟨gw, 0, none⟩) k cap) k (esL es) := by
  have o := h.row.own
  rwa [hk] at o
theorem KdB.cell (h : KdB base g8 kdHd (.slice (some ⟨gw, 0, none⟩) k cap) (.slice (some ⟨gw, 0, none⟩) k cap) es w0 W) (hk : es.length = k) {i : Nat} {e : ETx} (he : es[i]? = some e) : W.cell? ⟨gw, i * 4 + 1, none⟩ = some e.iv := by
  have r := own_range (h.own hk) (i * 4 + 1) e.iv (by rw [esL_get es i e he 1 (by omega)]; rfl)
  rwa [Nat.zero_add] at r
/-- Two inputs of no keys in a row of one's own. -/
theorem ins_two {W : World} {g C : Nat} {x : TIn} (h : W.ownsRow g 42 35 (.slice (some ⟨g, 0, none⟩) (1 + 1) C) (1 + 1) (inL x (.slice none 0 0) ++ inL x (.slice none 0 0))) (hx : InOk x) (hk : x.key = []) : InsAt W (.slice (some ⟨g, 0, none⟩) (1 + 1) C) [x, x] := by
  have hr := own_range h
  have hl := inL_length x (.slice none 0 0) hx.1
  have hc : 1 + 1 ≤ C := by
    rcases h.2 with ⟨hv, _⟩ | ⟨g', cap', cur, hv, _, _, hnc, _⟩
    · cases hv
    · cases hv
      exact hnc
  have key : KeyAt W (.slice none 0 0) x.key := by rw [hk]; exact nil_key W
  refine ⟨_, C, rfl, hc, fun _ => ⟨g, 0, rfl, fun i z hz => ?_⟩⟩
  have hi := (List.getElem?_eq_some_iff.1 hz).1
  simp at hi
  obtain rfl | rfl : i = 0 ∨ i = 1 := by omega
  · simp only [List.getElem?_cons_zero, Option.some.injEq] at hz
    subst hz
    exact ⟨hx, _, key, fun j u hj => by
      have := hr j u (by rw [List.getElem?_append_left (List.getElem?_eq_some_iff.1 hj).1]; exact hj)
      simpa using this⟩
  · simp only [List.getElem?_cons_succ, List.getElem?_cons_zero, Option.some.injEq] at hz
    subst hz
    exact ⟨hx, _, key, fun j u hj => by
      have := hr (35 + j) u (by rw [List.getElem?_append_right (by omega), hl, Nat.add_sub_cancel_left]; exact hj)
      simpa [Nat.add_assoc] using this⟩
theorem pd_ones {e : ETx} {U : World} (h : PD e U) : ∀ u ∈ e.cells, u.oneCell' = true := by
  have k := tx_one h.1 h.2
  rw [Array.all_eq_true_iff_forall_mem] at k
  exact fun u hu => k u (by simpa [ETx.cells] using hu)
theorem kd_ones2 (gi go : Nat) : ∀ u ∈ txL ⟨0, [⟨zH, 77, [], 0⟩], [⟨0, zH⟩], 0⟩ (.slice (some ⟨gi, 0, none⟩) 1 1) (.slice (some ⟨go, 0, none⟩) 1 1), u.oneCell' = true := by
  intro u hu
  simp only [txL, List.mem_cons, List.not_mem_nil, or_false] at hu
  rcases hu with rfl | rfl | rfl | rfl <;> rfl
theorem KdB.lowE (h : KdB base g8 kdHd (.slice (some ⟨gw, 0, none⟩) k cap) (.slice (some ⟨gw, 0, none⟩) k cap) es w0 W) {i : Nat} {e : ETx} (he : es[i]? = some e) : base ≤ e.lo := h.los e (List.mem_of_getElem? he)
theorem KdB.stE (h : KdB base g8 kdHd (.slice (some ⟨gw, 0, none⟩) k cap) (.slice (some ⟨gw, 0, none⟩) k cap) es w0 W) {e : ETx} (hm : e ∈ es) {q : Nat} (hq : q < e.lo ∨ e.hi ≤ q) (hg : W.grownBy W' (some q)) : Sty (fun j => j ≠ g8) W' (PD e) := by
  have h1 := (h.row.ok e hm).2.2.on (w' := W') (Kps.grown hg fun j _ hj e2 => by
    have h2 := Option.some.inj e2
    omega)
  have h3 := h.off e hm
  exact h1.imp (fun j _ hj => by omega) (fun _ p => p.1)
theorem KdB.el (h : KdB base g8 kdHd (.slice (some ⟨gw, 0, none⟩) k cap) (.slice (some ⟨gw, 0, none⟩) k cap) es w0 W) {i : Nat} {e : ETx} (he : es[i]? = some e) (hg : W.grownBy W' (some gw)) : Sty (fun j => j ≠ g8) W' (PD e) ∧ TxOk e.t :=
  ⟨h.stE (List.mem_of_getElem? he) (h.row.out gw rfl e (List.mem_of_getElem? he)) hg, (h.row.ok e (List.mem_of_getElem? he)).1⟩
theorem kd_txs {es' : List ETx} (own : W'.ownsRow base 32 4 (.slice (some ⟨gw, 0, none⟩) k cap) k (esL es')) (hn : es'.length = k) (hg : gw ≠ g8) (els : ∀ a ∈ es', TxOk a.t ∧ Sty (fun j => j ≠ g8) W' (PD a)) : Sty (fun j => j ≠ g8) W' (fun U => TxsAt U (.slice (some ⟨gw, 0, none⟩) k cap) (es'.map (·.t))) := fun U hU =>
  TxsAt.of_own (by rw [hn]; exact own_kps2 own hU hg) fun a ha => ⟨(els a ha).1, ((els a ha).2 U hU).1, ((els a ha).2 U hU).2⟩
theorem KdB.set (h : KdB base g8 kdHd (.slice (some ⟨gw, 0, none⟩) k cap) (.slice (some ⟨gw, 0, none⟩) k cap) es w0 W) (hk : es.length = k) {i : Nat} {e' : ETx} (ok : TxOk e'.t) (hp : Sty (fun j => j ≠ g8) W' (PD e')) (own : W'.ownsRow base 32 4 (.slice (some ⟨gw, 0, none⟩) k cap) k (esL (es.set i e'))) (hg : W.grownBy W' (some gw)) :
    KdD g8 gw k cap ((es.set i e').map (·.t)) w0 W' := by
  refine ⟨h.bel.grown hg h.bel.size (fun j hj => by have := Option.some.inj hj; have := h.at3.2.1; have := h.wb; omega), h.box.far hg (fun e => h.at3.1 (Option.some.inj e)), kd_txs own (by rw [List.length_set]; exact hk) h.at3.1 fun a ha => ?_⟩
  rcases List.mem_or_eq_of_mem_set ha with ha | rfl
  · exact ⟨(h.row.ok a ha).1, h.stE ha (h.row.out gw rfl a ha) hg⟩
  · exact ⟨ok, hp⟩
theorem KdB.stay (h : KdB base g8 kdHd (.slice (some ⟨gw, 0, none⟩) k cap) (.slice (some ⟨gw, 0, none⟩) k cap) es w0 W) (hk : es.length = k) (hs : es.map (·.t) = kdL k) {a how : Nat} (ha : a < k) (hw : kdW how a (kdAt k a) = kdAt k a) : KdD g8 gw k cap (kdC k a how) w0 W := by
  refine ⟨h.bel, h.box, ?_⟩
  rw [kd_same ha hw, ← hs]
  refine kd_txs (by have o := h.row.own; rwa [hk] at o) hk h.at3.1 fun a ha => ⟨(h.row.ok a ha).1, ?_⟩
  have h3 := h.off a ha
  exact (h.row.ok a ha).2.2.imp (fun j _ hj => by have h5 := hj.1; have h6 := hj.2; show j ≠ g8; omega) (fun _ p => p.1)
theorem KdB.inner (h : KdB base g8 kdHd (.slice (some ⟨gw, 0, none⟩) k cap) (.slice (some ⟨gw, 0, none⟩) k cap) es w0 W) (hk : es.length = k) {i q : Nat} {e e' : ETx} (he : es[i]? = some e) (hc : e'.cells = e.cells) (ok : TxOk e'.t) (hp : Sty (fun j => j ≠ g8) W' (PD e')) (hg : W.grownBy W' (some q)) (hq : e.lo ≤ q ∧ q < e.hi) (hw : w0.heap.size ≤ q) :
    KdD g8 gw k cap ((es.set i e').map (·.t)) w0 W' := by
  have hm := List.mem_of_getElem? he
  have h1 := h.off e hm
  have h2 := h.row.out gw rfl e hm
  refine ⟨h.bel.grown hg h.bel.size (fun j hj => by have := Option.some.inj hj; omega), h.box.far hg (fun e2 => by have := Option.some.inj e2; omega),
    kd_txs (by
      rw [esL_same he hc]
      have o := h.row.own
      rw [hk] at o
      exact o.kept hg (.inr (fun e2 => by have h5 : gw = q := Option.some.inj e2; omega))) (by rw [List.length_set]; exact hk) h.at3.1 fun a ha => ?_⟩
  obtain ⟨j, hj⟩ := List.getElem?_of_mem ha
  rw [List.getElem?_set] at hj
  by_cases hij : i = j
  · rw [if_pos hij, if_pos (List.getElem?_eq_some_iff.1 he).1] at hj
    rw [← Option.some.inj hj]
    exact ⟨ok, hp⟩
  · rw [if_neg hij] at hj
    have hma := List.mem_of_getElem? hj
    have h4 := h.row.two he hj hij
    exact ⟨(h.row.ok a hma).1, h.stE hma (by omega) hg⟩
end
theorem kdAt_pos {k a : Nat} (h : 0 < a) : kdAt k a = kdT a := if_neg (by omega)
theorem outs_none (W : World) : OutsAt W (.slice none 0 0) [] := ⟨none, 0, rfl, by simp, fun h => absurd h (by simp)⟩
def KdInv (n base g8 : Nat) (hd : THd) (w0 : World) (vi : Value) (wr : World) : Prop :=
  ∃ (k : Nat) (es : List ETx) (v : Value), k ≤ n ∧ 1 ≤ k ∧ vi = .int .i64 k ∧ es.map (·.t) = kdL k ∧ KdB base g8 hd v v es w0 wr
theorem kdHd_ok : HdOk kdHd := ⟨by show 0 ≤ _; omega, rfl, rfl, by show 0 ≤ _; omega, by show 1 ≤ _; omega, by show 0 ≤ _; omega⟩
def kdWant (how at' : Nat) : Nat := if how = 0 then 104 else if how = 1 then 107 else if how = 2 then (if 0 < at' then 106 else 0) else if 1 < at' then 106 else 0
/-- What is wanted is what is amiss. -/
theorem kd_three (how at' : Nat) (_hh : how < 4) : (kdWant how at' = 0 ∧ kdR how at' = (0, none)) ∨ (how ≠ 3 ∧ ∃ q, q < 25 ∧ kdR how at' = (q + 1, some at') ∧ kdWant how at' = 101 + q) ∨ (how = 3 ∧ kdR how at' = (6, none) ∧ kdWant how at' = 106) := by
  obtain rfl | rfl | rfl | rfl : how = 0 ∨ how = 1 ∨ how = 2 ∨ how = 3 := by omega
  · exact .inr (.inl ⟨by omega, 3, by omega, rfl, rfl⟩)
  · exact .inr (.inl ⟨by omega, 6, by omega, rfl, rfl⟩)
  · by_cases h : 0 < at'
    · exact .inr (.inl ⟨by omega, 5, by omega, by simp [kdR, h], by simp [kdWant, h]⟩)
    · exact .inl ⟨by simp [kdWant, h], by simp [kdR, h]⟩
  · by_cases h : 1 < at'
    · exact .inr (.inr ⟨rfl, by simp [kdR, h], by simp [kdWant, h]⟩)
    · exact .inl ⟨by simp [kdWant, h], by simp [kdR, h]⟩
end Go.Proofs.YtcghbogkplcohaaDoor.Sha

/-
  slices.Clone copies rows of transactions; a row of transactions as a list of elements. Conditions: the rows lie in memory; fewer than a million.
-/
namespace Go.Proofs.YtcghbogkplcohaaDoor.Sha
open Go Go.RowKit
set_option maxHeartbeats 1000000 in
set_option maxRecDepth 100000 in
theorem clone_rowT (n : Nat) (xs : List Value) (v : Value) (w : World) (hv : ∃ sp cap, v = .slice sp n cap ∧ (0 < n → n ≤ cap ∧ ∃ b o, sp = some ⟨b, o, none⟩ ∧ w.rangeAt b o xs)) (hl : xs.length = n * 4) (h1 : ∀ u ∈ xs, u.oneCell' = true) (hn : n ≤ 1000000) :
    Calls Tryd.prog 22 #[v] w fun e w' => ∃ v', e = .returned v' ∧ w'.ownsRow w.heap.size 32 4 v' n xs ∧ Below w.heap.size w w' := by
  obtain ⟨i0, hi, hz0, hz1, hz2⟩ := info_parts info_txc
  obtain ⟨sp, cap, rfl, hs⟩ := hv
  have hown0 : (w.alloc (.cells #[] 32)).ownsRow w.heap.size 32 4 (.slice (some ⟨w.heap.size, 0, none⟩) 0 0) 0 [] := World.ownsRow_lit w #[] 0 (Nat.le_refl _) (by unfold maxLen; omega) rfl
  have HO0 := Lib.hid hown0
  have HB0 := Lib.hid ((Below.refl w.heap.size w).alloc (Nat.le_refl _) (.cells #[] 32 (0, 0)))
  by_cases h0 : n = 0
  · subst h0
    obtain rfl : xs = [] := List.eq_nil_of_length_eq_zero (by omega)
    cases sp with
    | none =>
      clear hown0 HO0 hs
      have hq : ∀ W, (binOp .eql 35 (.slice none 0 cap) (.slice none 0 0)).run Tryd.prog W = .ok (.bool true) W := fun W => by kernel_rfl
      go_enter Tryd.func22, Tryd.ntmps22
      go_wp2_with fail
      go_ret
      exact ⟨_, rfl, World.ownsRow_nil w _ _ _, Below.refl _ _⟩
    | some ad =>
      have hap : ∀ ty, (Builtin.append_ #[35, 35] ty #[.slice (some ⟨w.heap.size, 0, none⟩) 0 0, .slice (some ad) 0 cap]).run Tryd.prog (w.alloc (.cells #[] 32)) = .ok (.slice (some ⟨w.heap.size, 0, none⟩) 0 0) (w.alloc (.cells #[] 32)) := fun ty =>
        run_append_src0 w.heap.size 35 ty 32 i0 Tryd.underlying35 hi w.heap.size 0 0 [] (by rw [hz1]; exact HO0.out) (some ad) cap
      clear hown0 hs
      have hq : ∀ W, (binOp .eql 35 (.slice (some ad) 0 cap) (.slice none 0 0)).run Tryd.prog W = .ok (.bool false) W := fun W => by kernel_rfl
      go_enter Tryd.func22, Tryd.ntmps22
      go_wp2_with fail
      go_ret
      exact ⟨_, rfl, HO0.out, HB0.out⟩
  · obtain ⟨hc, b, o, rfl, hr⟩ := hs (by omega)
    have HR := Lib.hid (range_below hr HB0.out)
    have HL := Lib.hid hl
    have H1 := Lib.hid h1
    clear hown0 hs hr hl h1
    have hq : ∀ W, (binOp .eql 35 (.slice (some ⟨b, o, none⟩) n cap) (.slice none 0 0)).run Tryd.prog W = .ok (.bool false) W := fun W => by kernel_rfl
    go_enter Tryd.func22, Tryd.ntmps22
    go_wp2_with (at_builtin; refine wpList_append_own _ rfl _ _ 35 rfl w.heap.size 32 i0 _ 4 64 Tryd.underlying35 hi hz0 hz1 hz2 (by kernel_rfl) (by decide) _ 0 [] rfl HO0.out ⟨b, o, none⟩ n cap xs rfl HL.out (fun j u hj => by rw [Addr.add_mid]; exact HR.out j u hj) H1.out (by unfold maxLen; omega) (by omega) (by simp) ?_; intro v' w2 ho hg _; have HO := Lib.hid ho; have HB := Lib.hid (HB0.out.grown hg HB0.out.size (fun k hk => by cases hk; exact Nat.le_refl _)); clear ho hg; go_frame)
    go_ret
    refine ⟨_, rfl, ?_, HB.out⟩
    have h := HO.out
    rw [Nat.zero_add, List.nil_append] at h
    exact h
theorem esL_read {w : World} {b : Nat} : ∀ (es : List ETx) (o : Nat), (∀ (i : Nat) e, es[i]? = some e → w.rangeAt b (o + i * 4) e.cells) → w.rangeAt b o (esL es)
  | [], _, _ => fun j v hj => by simp [esL] at hj
  | e :: es, o, h => fun j v hj => by
    have hc : e.cells.length = 4 := rfl
    have hj : (e.cells ++ esL es)[j]? = some v := hj
    by_cases h4 : j < 4
    · rw [List.getElem?_append_left (by omega)] at hj
      have := h 0 e rfl j v hj
      simpa using this
    · rw [List.getElem?_append_right (by omega), hc] at hj
      have := esL_read es (o + 4) (fun i e' he => by
        have := h (i + 1) e' he
        rwa [show o + (i + 1) * 4 = o + 4 + i * 4 by omega] at this) (j - 4) v hj
      rwa [show o + 4 + (j - 4) = o + j by omega] at this
/-- A row of transactions as elements. -/
theorem txsAt_es {w : World} {v : Value} {l : List TTx} (h : TxsAt w v l) : ∃ es : List ETx, es.map (·.t) = l ∧ (∀ e ∈ es, TxOk e.t ∧ InsAt w e.iv e.t.ins ∧ OutsAt w e.ov e.t.outs) ∧ ∃ sp cap, v = .slice sp l.length cap ∧ (0 < l.length → l.length ≤ cap ∧ ∃ b o, sp = some ⟨b, o, none⟩ ∧ w.rangeAt b o (esL es)) := by
  obtain ⟨sp, cap, rfl, hc, h2⟩ := h
  by_cases h0 : 0 < l.length
  · obtain ⟨b, o, rfl, h3⟩ := h2 h0
    obtain ⟨es, hl, hp⟩ := list_of_each (p := fun i (e : ETx) => l[i]? = some e.t ∧ (TxOk e.t ∧ InsAt w e.iv e.t.ins ∧ OutsAt w e.ov e.t.outs) ∧ w.rangeAt b (o + i * 4) e.cells) l.length (fun i hi => by
      obtain ⟨t, ht⟩ : ∃ t, l[i]? = some t := ⟨_, List.getElem?_eq_getElem hi⟩
      obtain ⟨h4, iv, ov, h5, h6, h7⟩ := h3 i t ht
      exact ⟨⟨t, iv, ov, 0, 0⟩, ht, ⟨h4, h6, h7⟩, h5⟩)
    refine ⟨es, ?_, fun e he => ?_, _, _, rfl, fun _ => ⟨hc, b, o, rfl, esL_read es o fun i e he => (hp i e he).2.2⟩⟩
    · refine List.ext_getElem? fun i => ?_
      rw [List.getElem?_map]
      by_cases hi : i < es.length
      · rw [List.getElem?_eq_getElem hi]
        exact (hp i _ (List.getElem?_eq_getElem hi)).1.symm
      · rw [List.getElem?_eq_none (by omega), List.getElem?_eq_none (by omega)]
        rfl
    · obtain ⟨i, hi⟩ := List.getElem?_of_mem he
      exact (hp i e hi).2.1
  · obtain rfl : l = [] := List.eq_nil_of_length_eq_zero (by omega)
    exact ⟨[], rfl, fun e he => by simp at he, sp, cap, rfl, fun h => absurd h (by simp)⟩
end Go.Proofs.YtcghbogkplcohaaDoor.Sha

/-
  Package tx copies a transaction: all of the copy is new, and each key lies by itself. Nothing that was there turns. Condition: a transaction of a few inputs and outputs that lies in memory.
-/
namespace Go.Proofs.YtcghbogkplcohaaDoor.Sha
open Go Go.RowKit
/-- A copy's inputs: rows and keys of its own, each by itself. -/
def CloneIns (base base2 : Nat) (w : World) (iv : Value) (l : List TIn) (ks : List Value) : Prop :=
  l.length = ks.length ∧ InsOk l ∧ w.ownsRow base 42 35 iv l.length (insL l ks) ∧ base ≤ base2 ∧ (∀ g, iv.ownBlock = some g → g < base2)
    ∧ (∀ (i : Nat) x kv, l[i]? = some x → ks[i]? = some kv → w.ownsRow base2 5 1 kv x.key.length (x.key.map bV))
    ∧ (∀ (i j : Nat) kv kv', i ≠ j → ks[i]? = some kv → ks[j]? = some kv' → ∀ g, kv.ownBlock = some g → Off kv' (some g))
theorem CloneIns.own {base base2 : Nat} {w : World} {iv : Value} {l : List TIn} {ks : List Value} (h : CloneIns base base2 w iv l ks) : InsOwn base w iv l ks := by
  obtain ⟨h1, h2, h3, h4, h5, h6, _⟩ := h
  refine ⟨h1, h3, h2, fun i x kv hx hk => ?_⟩
  have ho := h6 i x kv hx hk
  have hs := src_own ho
  obtain ⟨sp, cap, e⟩ := hs.shape
  refine ⟨⟨hs, sp, cap, e⟩, fun q hq => own_off ho (Nat.lt_of_lt_of_le hq h4), ?_⟩
  cases hb : iv.ownBlock with
  | none => exact Off.none kv
  | some g => exact own_off ho (h5 g hb)
theorem CloneIns.keep {base base2 : Nat} {w w' : World} {iv : Value} {l : List TIn} {ks : List Value} (h : CloneIns base base2 w iv l ks) (hb : Below w.heap.size w w') : CloneIns base base2 w' iv l ks :=
  ⟨h.1, h.2.1, own_kept h.2.2.1 hb, h.2.2.2.1, h.2.2.2.2.1, fun i x kv hx hk => own_kept (h.2.2.2.2.2.1 i x kv hx hk) hb, h.2.2.2.2.2.2⟩
theorem CloneIns.other {base base2 q : Nat} {w w' : World} {iv : Value} {l : List TIn} {ks : List Value} (h : CloneIns base base2 w iv l ks) (hg : w.grownBy w' (some q)) (hq : q < base) : CloneIns base base2 w' iv l ks :=
  ⟨h.1, h.2.1, h.2.2.1.kept hg (own_far h.2.2.1 hq), h.2.2.2.1, h.2.2.2.2.1, fun i x kv hx hk => (h.2.2.2.2.2.1 i x kv hx hk).kept hg (own_far (h.2.2.2.2.2.1 i x kv hx hk) (Nat.lt_of_lt_of_le hq h.2.2.2.1)), h.2.2.2.2.2.2⟩
/-- A copy's two rows. -/
def CloneAt (base base2 base3 : Nat) (w : World) (iv ov : Value) (t : TTx) (ks : List Value) : Prop := CloneIns base base2 w iv t.ins ks ∧ OutsOwn base3 w ov t.outs ∧ base ≤ base3 ∧ InsLow base3 iv ks
def ClnPost (t : TTx) (w : World) (e : Ending) (w' : World) : Prop :=
  ∃ iv ov ks base base2 base3, e = .returned (.agg (txL t iv ov).toArray) ∧ Below w.heap.size w w' ∧ w.heap.size ≤ base ∧ CloneAt base base2 base3 w' iv ov t ks
def ClInv (base base2 ni : Nat) (g1 g2 vt tt : Nat) (iv : Value) (so : Option Addr) (no co : Nat) (t : TTx) (ks0 : List Value) (w : World) (vi : Value) (wr : World) : Prop :=
  ∃ (k : Nat) (ks : List Value), k ≤ ni ∧ vi = .int .i64 k ∧ t.ins.length = ks.length ∧ wr.ownsRow base 42 35 iv ni (insL t.ins ks)
    ∧ (∀ (i : Nat) x kv, i < k → t.ins[i]? = some x → ks[i]? = some kv → wr.ownsRow base2 5 1 kv x.key.length (x.key.map bV))
    ∧ (∀ (i j : Nat) kv kv', i < k → j < k → i ≠ j → ks[i]? = some kv → ks[j]? = some kv' → ∀ g, kv.ownBlock = some g → Off kv' (some g))
    ∧ (∀ i, k ≤ i → ks[i]? = ks0[i]?) ∧ wr.heap[g1]? = some (.cells [nV vt, iv, .slice so no co, nV tt].toArray 32 (0, 0)) ∧ wr.heap[g2]? = some (.cells [nV 0, .slice none 0 0, .slice none 0 0, nV 0].toArray 32 (0, 0)) ∧ Below w.heap.size w wr ∧ base2 ≤ wr.heap.size
set_option maxHeartbeats 4000000 in
set_option maxRecDepth 100000 in
theorem clone_tx (t : TTx) (v : Value) (w : World) (h1 : TxAt w v t) (hs : TxSmall t) : Calls Tryd.prog 23 #[v] w (ClnPost t w) := by
  obtain ⟨ht0, iv0, ov0, rfl, hti, hto⟩ := h1
  obtain ⟨ks0, hl0, hok, hk0, si, ci, rfl, hr0⟩ := insAt_keys hti
  obtain ⟨so, co, rfl, hco, hor⟩ := hto
  obtain ⟨ni, hn1⟩ : ∃ ni, ni = t.ins.length := ⟨_, rfl⟩
  obtain ⟨no, hn2⟩ : ∃ no, no = t.outs.length := ⟨_, rfl⟩
  obtain ⟨vt, hvt⟩ : ∃ vt, vt = t.ver := ⟨_, rfl⟩
  obtain ⟨tt, htt⟩ : ∃ tt, tt = t.time := ⟨_, rfl⟩
  have VT := Lib.hid hvt
  have TT := Lib.hid htt
  have NI := Lib.hid hn1
  have NO := Lib.hid hn2
  have TS := Lib.hid hs
  have bni : ni ≤ 1000 := by rw [hn1]; exact hs.2.1
  have bno : no ≤ 1000 := by rw [hn2]; exact hs.2.2.1
  have HV : Hid (∃ sp cap, (Value.slice si ni ci) = .slice sp ni cap ∧ (0 < ni → ni ≤ cap ∧ ∃ b o, sp = some ⟨b, o, none⟩ ∧ w.rangeAt b o (insL t.ins ks0))) := ⟨si, ci, rfl, by rw [hn1]; exact hr0⟩
  have HVO : Hid (∀ w', Below w.heap.size w w' → ∃ sp cap, (Value.slice so no co) = .slice sp no cap ∧ (0 < no → no ≤ cap ∧ ∃ b o, sp = some ⟨b, o, none⟩ ∧ w'.rangeAt b o (outsL t.outs))) := fun w' hw' => ⟨so, co, rfl, fun h0 => by
    obtain ⟨b, o, e, hr⟩ := hor (by rw [← hn2]; exact h0)
    exact ⟨by rw [hn2]; exact hco, b, o, e, outsL_read t.outs o hs.1.2.2.1 (fun i y hy => range_below (hr i y hy).2 hw')⟩⟩
  have L0 := Lib.hid hl0
  have OK := Lib.hid hok
  have KA := Lib.hid hk0
  have ONES := Lib.hid (keys_ones hl0 hk0)
  have LIN : Hid ((insL t.ins ks0).length = ni * 35) := by show _ = _; rw [insL_length t.ins ks0 hl0 hok, hn1]
  have LOUT : Hid ((outsL t.outs).length = no * 33) := by show _ = _; rw [outsL_length t.outs hs.1.2.2.1, hn2]
  simp only [txL, ← hn1, ← hn2, ← hvt, ← htt]
  clear hn1 hn2 hvt htt ht0 hti hl0 hok hk0 hr0 hor hco hs
  go_enter Tryd.func23, Tryd.ntmps23
  go_upto_region 1 with fail
  have f1 := row_below (heap_alloc_new w (.cells [nV vt, .slice si ni ci, .slice so no co, nV tt].toArray 32 (0, 0))) ((Below.refl _ _).alloc (Nat.le_refl _) (.cells [nV 0, .slice none 0 0, .slice none 0 0, nV 0].toArray 32 (0, 0)))
  have f2 := heap_alloc_new (w.alloc (.cells [nV vt, .slice si ni ci, .slice so no co, nV tt].toArray 32 (0, 0))) (.cells [nV 0, .slice none 0 0, .slice none 0 0, nV 0].toArray 32 (0, 0))
  have b1 := ((Below.refl w.heap.size w).alloc (Nat.le_refl _) (.cells [nV vt, .slice si ni ci, .slice so no co, nV tt].toArray 32 (0, 0))).alloc (by simp) (.cells [nV 0, .slice none 0 0, .slice none 0 0, nV 0].toArray 32 (0, 0))
  rw [World.size_alloc] at f2
  generalize hw1 : World.alloc _ _ = w1
  have e1 : (w.alloc (.cells [nV vt, .slice si ni ci, .slice so no co, nV tt].toArray 32 (0, 0))).alloc (.cells [nV 0, .slice none 0 0, .slice none 0 0, nV 0].toArray 32 (0, 0)) = w1 := hw1
  rw [e1] at f1 f2 b1
  obtain ⟨g2, hg2⟩ : ∃ g2, g2 = w.heap.size + 1 := ⟨_, rfl⟩
  rw [← hg2] at f2 ⊢
  have F1 := Lib.hid f1
  have F2 := Lib.hid f2
  have B1 := Lib.hid b1
  have WG2 : Hid (w.heap.size ≤ g2) := by show _ ≤ _; omega
  have NE12 : Hid (some g2 ≠ some w.heap.size) := fun e => by have := Option.some.inj e; omega
  have NE21 : Hid (some w.heap.size ≠ some g2) := fun e => by have := Option.some.inj e; omega
  have G2L : Hid (g2 < w1.heap.size) := (Array.getElem?_eq_some_iff.1 f2).1
  have G1L : Hid (w.heap.size < w1.heap.size) := (Array.getElem?_eq_some_iff.1 f1).1
  have c1 : w1.cell? ⟨w.heap.size, 1, none⟩ = some (.slice si ni ci) := by rw [cell_of_row _ _ _ _ _ _ f1]; rfl
  clear f1 f2 b1 hw1 e1 hg2
  go_wp2_with fail
  refine (clone_rowI ni (insL t.ins ks0) _ w1 (by
    obtain ⟨sp, cap, e, h⟩ := HV.out
    exact ⟨sp, cap, e, fun h0 => ⟨(h h0).1, by obtain ⟨b, o, e2, hr⟩ := (h h0).2; exact ⟨b, o, e2, range_below hr B1.out⟩⟩⟩) LIN.out (insL_ones _ _ ONES.out) (by omega)).mono ?_
  rintro e w2 ⟨iv, rfl, ho, hb2⟩
  have ONEI := Lib.hid (own_one ho)
  have O2 := Lib.hid ho
  have F12 := Lib.hid (row_below F1.out hb2)
  have F22 := Lib.hid (row_below F2.out hb2)
  have B2 := Lib.hid (B1.out.trans (hb2.mono B1.out.size))
  have HS2 : Hid (w1.heap.size ≤ w2.heap.size) := hb2.size
  clear ho hb2 c1 HV
  go_upto_region 2 with ((with_reducible show wpList _ _ _ _ _ _); refine wpList_store_part rfl 29 (.tmp 7) (.tmp 6) rfl w.heap.size 1 [nV vt] [.slice si ni ci] [.slice so no co, nV tt] [iv] 32 iv rfl rfl (cells_one ONEI.out) rfl rfl F12.out (by kernel_rfl) (one_mem ONEI.out) ?_; intro w3 q1 q2; have F13 := Lib.hid q1; have Q3 := Lib.hid q2; clear q1 q2; go_frame)
  have F13 : Hid (w3.heap[w.heap.size]? = some (.cells [nV vt, iv, .slice so no co, nV tt].toArray 32 (0, 0))) := F13.out
  have F23 := Lib.hid (row_far F22.out Q3.out NE21.out)
  have B3 := Lib.hid (B2.out.grown Q3.out B2.out.size (fun k hk => by cases hk; exact Nat.le_refl _))
  obtain ⟨base, hbase⟩ : ∃ base, base = w1.heap.size := ⟨_, rfl⟩
  have WB : Hid (w.heap.size < base) := by rw [hbase]; exact G1L.out
  have G2B : Hid (g2 < base) := by rw [hbase]; exact G2L.out
  rw [← hbase] at O2 HS2
  have O3 := Lib.hid (O2.out.kept Q3.out (own_far O2.out WB.out))
  obtain ⟨base2, hbase2⟩ : ∃ base2, base2 = w3.heap.size := ⟨_, rfl⟩
  have BB : Hid (base ≤ base2) := by rw [hbase2]; exact Nat.le_trans HS2.out Q3.out.size
  have B2S : Hid (base2 ≤ w3.heap.size) := by rw [hbase2]; exact Nat.le_refl _
  have IVB : Hid (∀ g, iv.ownBlock = some g → base ≤ g ∧ g < base2) := fun g hg => by rw [hbase2]; exact O3.out.lt g hg
  obtain ⟨sv, cv, hiv⟩ : ∃ sv cv, iv = .slice sv ni cv := by
    rcases O3.out.2 with ⟨e, h0⟩ | ⟨g, cap, cur, e, _⟩
    · exact ⟨none, 0, by rw [e, h0]⟩
    · exact ⟨_, _, e⟩
  subst hiv
  clear Q3 F12 F22 B2 O2 hbase hbase2 HS2 G2L G1L F1 F2
  have c1 : w3.cell? ⟨w.heap.size, 1, none⟩ = some (.slice sv ni cv) := by rw [cell_of_row _ _ _ _ _ _ F13.out]; rfl
  go_wp2_with fail
  clear c1
  go_loopw [11] (fun vi wr => ClInv base base2 ni w.heap.size g2 vt tt (.slice sv ni cv) so no co t ks0 w vi wr) (fun i _ => ni - (intOf i).toNat)
  case atStart => exact ⟨0, ks0, by omega, rfl, L0.out, O3.out, fun i x kv hi => by omega, fun i j kv kv' hi => by omega, fun i _ => rfl, F13.out, F23.out, B3.out, B2S.out⟩
  case round =>
    clear O3 F13 F23 B3 B2S
    obtain ⟨k, ks, hk, rfl, hlen, hown, hkey, hap, hold, hF1, hF2, hB, hB2⟩ := hrel
    have LEN := Lib.hid hlen
    have O := Lib.hid hown
    have KEYS := Lib.hid hkey
    have AP := Lib.hid hap
    have OLD := Lib.hid hold
    have F1 := Lib.hid hF1
    have F2 := Lib.hid hF2
    have B := Lib.hid hB
    have BS := Lib.hid hB2
    clear hlen hown hkey hap hold hF1 hF2 hB hB2
    by_cases hlt : k < ni
    · have hkx : k < t.ins.length := by have := NI.out; omega
      obtain ⟨x, hx⟩ : ∃ x, t.ins[k]? = some x := ⟨_, List.getElem?_eq_getElem hkx⟩
      obtain ⟨kv, hkv⟩ : ∃ kv, ks[k]? = some kv := ⟨_, List.getElem?_eq_getElem (by have := LEN.out; omega)⟩
      have hkv0 : ks0[k]? = some kv := by rw [← OLD.out k (Nat.le_refl _)]; exact hkv
      have hka := (KA.out k x kv hx hkv0).below B.out
      obtain ⟨sx, cx, hkv2⟩ := hka.2
      obtain ⟨gi, gc, cur, hgi⟩ : ∃ gi : Nat, sv = some ⟨gi, 0, none⟩ ∧ True ∧ True := by
        rcases O.out.2 with ⟨e, h0⟩ | ⟨g, cap, cur, e, _⟩
        · omega
        · simp only [Value.slice.injEq, true_and] at e
          exact ⟨g, e.1, trivial, trivial⟩
      subst gc
      have BG : Hid (base ≤ gi ∧ gi < base2) := IVB.out gi rfl
      have GX := Lib.hid hx
      have GK := Lib.hid hkv
      have KS := Lib.hid hka.1
      have BKL : Hid (x.key.length ≤ 70368744177664) := Nat.le_trans (TS.out.2.2.2 x (List.mem_of_getElem? hx)) (by omega)
      have CK : Hid (∀ w', Below wr.heap.size wr w' → w'.cell? ⟨gi, k * 35 + 33, none⟩ = some kv) := fun w' hw' => by
        rw [(own_kept O.out hw').cellAt (k * 35 + 33) (by omega), insL_get t.ins ks k x kv OK.out hx hkv 33 (by omega), inL, List.getElem?_append_right (by simp [ptL, (OK.out x (List.mem_of_getElem? hx)).1])]
        simp [ptL, (OK.out x (List.mem_of_getElem? hx)).1]
      have p0 : 0 ≤ (k : Int) := by omega
      have q0 : (k : Int) < (ni : Int) := by omega
      have LT : Hid (k < ni) := hlt
      clear hx hkv hkv0 hka hkx hkv2 sx cx
      go_wp2_with fail
      refine wp_region_held_drew (S := (fun w' => w'.heap[w.heap.size]? = some (.cells [nV vt, .slice (some ⟨gi, 0, none⟩) ni cv, .slice so no co, nV tt].toArray 32 (0, 0)))) (by kernel_rfl) F1.out (fun hHeld => ?_)
      have bb := Below.drew (Below.refl wr.heap.size wr)
      generalize hwd : wr.drew = wd
      rw [hwd] at hHeld bb
      have BD := Lib.hid bb
      clear hwd bb
      refine held_take (i := 0) (v := (.pointer (some ⟨w.heap.size, 1, none⟩))) rfl (by kernel_rfl) (by kernel_rfl) (by kernel_rfl) (fun _ _ _ h => h) (Or.inl ⟨by rfl, fun w' _ => by kernel_rfl⟩) hHeld ?_
      go_frame
      refine held_take (i := 1) (v := (.slice (some ⟨gi, 0, none⟩) ni cv)) rfl (by kernel_rfl) (by kernel_rfl) (by kernel_rfl) (fun _ _ _ h => h) (yieldsIf_load_one (by rfl) 29 _ rfl w.heap.size (1) rfl _ _ (fun w' hw' => by rw [cell_of_row _ _ _ _ _ _ hw']; rfl) Tryd.underlying29 rfl) hHeld ?_
      go_frame
      refine held_take (i := 2) (v := (.int .i64 (k : Int))) rfl (by kernel_rfl) (by kernel_rfl) (by kernel_rfl) (fun _ _ _ h => h) (Or.inl ⟨by rfl, fun w' _ => by kernel_rfl⟩) hHeld ?_
      go_frame
      refine held_take (i := 3) (v := (.pointer (some ⟨w.heap.size, 1, none⟩))) rfl (by kernel_rfl) (by kernel_rfl) (by kernel_rfl) (fun _ _ _ h => h) (Or.inl ⟨by rfl, fun w' _ => by kernel_rfl⟩) hHeld ?_
      go_frame
      refine held_take (i := 4) (v := (.slice (some ⟨gi, 0, none⟩) ni cv)) rfl (by kernel_rfl) (by kernel_rfl) (by kernel_rfl) (fun _ _ _ h => h) (yieldsIf_load_one (by rfl) 29 _ rfl w.heap.size (1) rfl _ _ (fun w' hw' => by rw [cell_of_row _ _ _ _ _ _ hw']; rfl) Tryd.underlying29 rfl) hHeld ?_
      go_frame
      refine held_take (i := 5) (v := (.int .i64 (k : Int))) rfl (by kernel_rfl) (by kernel_rfl) (by kernel_rfl) (fun _ _ _ h => h) (Or.inl ⟨by rfl, fun w' _ => by kernel_rfl⟩) hHeld ?_
      go_frame
      refine held_take (i := 6) (v := (.pointer (some ⟨gi, k * 35, none⟩))) rfl (by kernel_rfl) (by kernel_rfl) (by kernel_rfl) (fun _ _ _ h => h) (Or.inl ⟨by rfl, fun w' _ => by go_simp⟩) hHeld ?_
      go_frame
      refine held_take (i := 7) (v := (.pointer (some ⟨gi, k * 35 + 33, none⟩))) rfl (by kernel_rfl) (by kernel_rfl) (by kernel_rfl) (fun _ _ _ h => h) (Or.inl ⟨by rfl, fun w' _ => by kernel_rfl⟩) hHeld ?_
      go_frame
      refine wpAnyH_ready (rs := [8]) (by kernel_rfl) (by simp) (held_cons rfl (fun K hK => ?_) AllReadyH.nil)
      rw [if_pos (by rfl)]
      refine wp_load_cell 40 (.tmp 21) rfl gi (k * 35 + 33) rfl kv _ (CK.out wd BD.out) Tryd.underlying40 rfl ?_
      go_frame
      refine hK.out _ _ hHeld (fun hHeld => ?_)
      clear hK K
      refine wpAnyH_ready (rs := [9]) (by kernel_rfl) (by simp) (held_cons rfl (fun K hK => ?_) AllReadyH.nil)
      go_simp
      refine (clone_any x.key kv wd (KS.out.below BD.out) BKL.out).mono ?_
      rintro e w5 ⟨v5, rfl, ho5, hb5⟩
      have N5 := Lib.hid ho5
      have ONE5 := Lib.hid (own_one ho5)
      have W5 := Lib.hid (BD.out.trans (hb5.mono BD.out.size))
      have hS5 := row_below hHeld hb5
      clear hHeld ho5 hb5
      go_wp2_with fail
      refine hK.out _ _ hS5 (fun hHeld => ?_)
      clear hK K hS5
      refine held_take (i := 10) (v := (.pointer (some ⟨gi, k * 35, none⟩))) rfl (by kernel_rfl) (by kernel_rfl) (by kernel_rfl) (fun _ _ _ h => h) (Or.inl ⟨by rfl, fun w' _ => by go_simp⟩) hHeld ?_
      go_frame
      refine held_take (i := 11) (v := (.pointer (some ⟨gi, k * 35 + 33, none⟩))) rfl (by kernel_rfl) (by kernel_rfl) (by kernel_rfl) (fun _ _ _ h => h) (Or.inl ⟨by rfl, fun w' _ => by kernel_rfl⟩) hHeld ?_
      go_frame
      refine wpAnyH_ready (rs := [12]) (by kernel_rfl) (by simp) (held_cons rfl (fun K hK => ?_) AllReadyH.nil)
      rw [if_pos (by rfl)]
      refine wp_store_own 40 (.tmp 25) (.tmp 23) rfl gi (k * 35 + 33) base 35 ni cv 42 (insL t.ins ks) v5 rfl rfl ONE5.out (by kernel_rfl) (own_kept O.out W5.out) (by have := LT.out; omega) ?_
      intro w6 q1 q2
      have O6 := Lib.hid q1
      have Q6 := Lib.hid q2
      have hS6 := row_far hHeld q2 (fun e => by have := Option.some.inj e; have := BG.out; have := WB.out; omega)
      clear q1 q2 hHeld
      go_frame
      refine hK.out _ _ hS6 (fun hHeld => ?_)
      clear hK K hS6
      refine wpAnyH_done (by kernel_rfl) ?_ _
      have F16 := Lib.hid hHeld
      clear hHeld
      go_wp2_with fail
      have F26 := Lib.hid (row_far (row_below F2.out W5.out) Q6.out (fun e => by have := Option.some.inj e; have := BG.out; have := G2B.out; omega))
      have B6 := Lib.hid ((B.out.trans (W5.out.mono B.out.size)).grown Q6.out (Nat.le_trans B.out.size W5.out.size) (fun q hq => by cases hq; have := BG.out; have := WB.out; omega))
      have SZ5 : Hid (wr.heap.size ≤ wd.heap.size) := BD.out.size
      go_roundw
      case rel =>
        have lk : k < ks.length := by have := LEN.out; have := NI.out; have := LT.out; omega
        have nn := N5.out
        refine ⟨k + 1, ks.set k v5, by omega, by go_num, by rw [List.length_set]; exact LEN.out, ?_, ?_, ?_, ?_, F16.out, F26.out, B6.out, Nat.le_trans BS.out (Nat.le_trans W5.out.size Q6.out.size)⟩
        · rw [insL_set t.ins ks k v5 LEN.out OK.out (by have := NI.out; have := LT.out; omega)]
          exact O6.out
        · intro i y kw hi hy hkw
          by_cases hik : i = k
          · subst hik
            rw [List.getElem?_set_self lk] at hkw
            cases hkw
            have := Option.some.inj (GX.out.symm.trans hy)
            subst this
            exact own_base (nn.kept Q6.out (own_far nn (by have := BG.out; have := BS.out; have := SZ5.out; omega))) (by have := BS.out; have := SZ5.out; omega)
          · rw [List.getElem?_set_ne (by omega)] at hkw
            have := own_kept (KEYS.out i y kw (by omega) hy hkw) W5.out
            exact this.kept Q6.out (own_far this BG.out.2)
        · intro i j kw kw' hi hj hij hkw hkw' g hg
          by_cases hik : i = k
          · subst hik
            rw [List.getElem?_set_self lk] at hkw
            cases hkw
            rw [List.getElem?_set_ne (by omega)] at hkw'
            obtain ⟨y, hy⟩ : ∃ y, t.ins[j]? = some y := ⟨_, List.getElem?_eq_getElem (by have := (List.getElem?_eq_some_iff.1 hkw').1; have := LEN.out; omega)⟩
            have ho := KEYS.out j y kw' (by omega) hy hkw'
            have h2 := (nn.lt g hg).1
            intro sp m cap hv _ e
            have h3 := (ho.lt sp.block (by rw [hv]; rfl)).2
            have := Option.some.inj e
            have := SZ5.out
            omega
          · rw [List.getElem?_set_ne (by omega)] at hkw
            obtain ⟨y, hy⟩ : ∃ y, t.ins[i]? = some y := ⟨_, List.getElem?_eq_getElem (by have := (List.getElem?_eq_some_iff.1 hkw).1; have := LEN.out; omega)⟩
            have ho := KEYS.out i y kw (by omega) hy hkw
            have h2 := (ho.lt g hg).2
            by_cases hjk : j = k
            · subst hjk
              rw [List.getElem?_set_self lk] at hkw'
              cases hkw'
              exact own_off nn (by have := SZ5.out; omega)
            · rw [List.getElem?_set_ne (by omega)] at hkw'
              exact AP.out i j kw kw' (by omega) (by omega) hij hkw hkw' g hg
        · intro i hi
          rw [List.getElem?_set_ne (by omega)]
          exact OLD.out i (by omega)
      case measure => simp [intOf]; omega
    · have hkn : k = ni := by omega
      have hge : ¬ (k : Int) < (ni : Int) := by omega
      have CI : Hid (CloneIns base base2 wr (.slice sv ni cv) t.ins ks) := ⟨LEN.out, OK.out, by rw [← NI.out]; exact O.out, BB.out, fun g hg => (IVB.out g hg).2, fun i x kv hx hkv => KEYS.out i x kv (by have := (List.getElem?_eq_some_iff.1 hx).1; have := NI.out; omega) hx hkv,
        fun i j kv kv' hij h1 h2 => AP.out i j kv kv' (by have := (List.getElem?_eq_some_iff.1 h1).1; have := NI.out; have := LEN.out; omega) (by have := (List.getElem?_eq_some_iff.1 h2).1; have := NI.out; have := LEN.out; omega) hij h1 h2⟩
      have c2 : wr.cell? ⟨w.heap.size, 2, none⟩ = some (.slice so no co) := by rw [cell_of_row _ _ _ _ _ _ F1.out]; rfl
      clear hkn O KEYS AP OLD
      go_wp2_with fail
      refine (clone_rowO no (outsL t.outs) _ wr (HVO.out wr B.out) LOUT.out (outsL_ones _) (by omega)).mono ?_
      rintro e w5 ⟨ov, rfl, ho, hb5⟩
      have ONEO := Lib.hid (own_one ho)
      have OO : Hid (OutsOwn wr.heap.size w5 ov t.outs) := ⟨by rw [← NO.out]; exact ho, TS.out.1.2.2.1⟩
      have F15 := Lib.hid (row_below F1.out hb5)
      have F25 := Lib.hid (row_below F2.out hb5)
      have B5 := Lib.hid (B.out.trans (hb5.mono B.out.size))
      have CI5 := Lib.hid (CI.out.keep hb5)
      have IL := Lib.hid CI.out.own.low
      have SZ : Hid (base ≤ wr.heap.size) := Nat.le_trans BB.out BS.out
      clear ho hb5 c2 CI F1 F2
      go_upto_region 8 with ((with_reducible show wpList _ _ _ _ _ _); refine wpList_store_part rfl 30 (.tmp 30) (.tmp 29) rfl w.heap.size 2 [nV vt, .slice sv ni cv] [.slice so no co] [nV tt] [ov] 32 ov rfl rfl (cells_one ONEO.out) rfl rfl F15.out (by kernel_rfl) (one_mem ONEO.out) ?_; intro w6 q1 q2; have F16 := Lib.hid q1; have Q6 := Lib.hid q2; clear q1 q2; go_frame)
      have F16 : Hid (w6.heap[w.heap.size]? = some (.cells [nV vt, .slice sv ni cv, ov, nV tt].toArray 32 (0, 0))) := F16.out
      have F26 := Lib.hid (row_far F25.out Q6.out NE21.out)
      have B6 := Lib.hid (B5.out.grown Q6.out B5.out.size (fun q hq => by cases hq; exact Nat.le_refl _))
      have CI6 := Lib.hid (CI5.out.other Q6.out WB.out)
      have OO6 := Lib.hid (OO.out.other Q6.out (Nat.lt_of_lt_of_le WB.out SZ.out))
      have ONE : Hid ([nV vt, .slice sv ni cv, ov, nV tt].toArray.all (·.oneCell') = true) := by
        show _ = _
        have b : ov.oneCell' = true := ONEO.out
        rw [Array.all_eq_true_iff_forall_mem]
        intro u hu
        simp only [List.mem_toArray, List.mem_cons, List.not_mem_nil, or_false] at hu
        rcases hu with rfl | rfl | rfl | rfl
        · rfl
        · rfl
        · exact b
        · rfl
      clear Q6 F15 F25 B5 CI5 OO
      go_wp2_with ((with_reducible show wpList _ _ _ _ _ _); first | (refine wpList_load_row rfl 32 (.tmp 1) rfl w.heap.size rfl 32 [nV vt, .slice sv ni cv, ov, nV tt].toArray (0, 0) _ F16.out Tryd.underlying32 rfl (by kernel_rfl) ?_; go_frame) | (refine wpList_store_row rfl 32 (.tmp 2) (.tmp 31) rfl g2 [nV vt, .slice sv ni cv, ov, nV tt].toArray rfl rfl 32 _ F26.out (by kernel_rfl) rfl ONE.out ?_; go_frame))
      refine bodyPost_ret (results_cell_row rfl _ _ g2 32 [nV vt, .slice sv ni cv, ov, nV tt].toArray (0, 0) _ rfl (setRow_heap _ _ _ _ _ _ F26.out) Tryd.underlying32 rfl (by kernel_rfl)) rfl ?_
      have HQ : w6.grownBy (w6.setRow g2 [nV vt, .slice sv ni cv, ov, nV tt].toArray) (some g2) := setRow_grown _
      have e1 := VT.out
      have e2 := TT.out
      refine ⟨.slice sv ni cv, ov, ks, base, base2, wr.heap.size, by rw [e1, e2]; rfl, B6.out.grown HQ B6.out.size (fun q hq => by cases hq; exact WG2.out), Nat.le_of_lt WB.out, CI6.out.other HQ G2B.out, OO6.out.other HQ (Nat.lt_of_lt_of_le G2B.out SZ.out), SZ.out, IL.out⟩
theorem CloneAt.tx {base base2 base3 : Nat} {w : World} {iv ov : Value} {t : TTx} {ks : List Value} (h : CloneAt base base2 base3 w iv ov t ks) (ht : TxOk t) : TxAt w (.agg (txL t iv ov).toArray) t := ⟨ht, iv, ov, rfl, h.1.own.at, h.2.1.at⟩
theorem clone_all : CloneC := fun t v w h1 hs => (clone_tx t v w h1 hs).mono fun _ _ ⟨_, _, _, _, _, _, he, hb, _, hc⟩ => ⟨_, he, hc.tx hs.1.1, hb⟩
end Go.Proofs.YtcghbogkplcohaaDoor.Sha

/-
  What a cloned transaction stands on: new memory of its own. Conditions: those that each states.
-/
namespace Go.Proofs.YtcghbogkplcohaaDoor.Sha
open Go Go.RowKit
/-- An element that is a clone, in blocks from lo on. -/
def PC (e : ETx) (W : World) : Prop := ∃ ks base base2 base3, e.lo ≤ base ∧ CloneAt base base2 base3 W e.iv e.ov e.t ks
theorem PC.at {e : ETx} {W : World} (h : PC e W) : InsAt W e.iv e.t.ins ∧ OutsAt W e.ov e.t.outs := by
  obtain ⟨ks, base, base2, base3, _, h1, h2, _⟩ := h
  exact ⟨h1.own.at, h2.at⟩
theorem clone_sty {t : TTx} {iv ov : Value} {ks : List Value} {base base2 base3 : Nat} {w w' : World} (h : CloneAt base base2 base3 w' iv ov t ks) (hb : w.heap.size ≤ base) :
    Sty (fun k => w.heap.size ≤ k ∧ k < w'.heap.size) w' (PC ⟨t, iv, ov, w.heap.size, w'.heap.size⟩) := fun U hU => by
  have hK : Kps (fun k => base ≤ k) w' U := hU.mono fun k hk hb' => ⟨Nat.le_trans hb hb', hk⟩
  obtain ⟨⟨h1, h2, h3, h4, h5, h6, h7⟩, h8, h9, h10⟩ := h
  exact ⟨ks, base, base2, base3, hb, ⟨h1, h2, own_kps h3 hK (fun k hk => hk), h4, h5, fun i x kv hx hkv => own_kps (h6 i x kv hx hkv) hK (fun k hk => Nat.le_trans h4 hk), h7⟩, h8.kps hK (fun k hk => Nat.le_trans h9 hk), h9, h10⟩
end Go.Proofs.YtcghbogkplcohaaDoor.Sha
