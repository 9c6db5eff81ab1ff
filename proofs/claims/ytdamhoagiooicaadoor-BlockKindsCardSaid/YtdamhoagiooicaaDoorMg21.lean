/-
  Texts of this proof joined into one file: KdRow, KdMath, KdSt, FltSee. What each holds, and under which conditions, its own first sentence tells.
-/
import Derived.Test.YtdamhoagiooicaaDoorMg20
import Derived.Test.YtdamhoagiooicaaDoorMg10
import Derived.Test.YtdamhoagiooicaaDoorMg17
import Derived.Test.YtdamhoagiooicaaDoorMg15
import Derived.Test.YtdamhoagiooicaaDoorMg02
import Derived.Test.YtdamhoagiooicaaDoorMg03
import Derived.Test.YtdamhoagiooicaaDoorMg14
/-
  Changes in a row of transactions of one's own: a whole element, one cell, an element's own input. Conditions: those that each states.
-/
namespace Go.Proofs.YtdamhoagiooicaaDoor.Sha
open Go Go.RowKit
theorem esL_set4 : ∀ (es : List ETx) (i : Nat) (e' : ETx), i < es.length → esL (es.set i e') = (esL es).take (i * 4) ++ e'.cells ++ (esL es).drop (i * 4 + 4)
  | [], i, e', h => absurd h (by simp)
  | z :: es, 0, e', h => by
    show e'.cells ++ esL es = ((z.cells ++ esL es).take (0 * 4)) ++ e'.cells ++ (z.cells ++ esL es).drop (0 * 4 + 4)
    rw [Nat.zero_mul, List.take_zero, List.nil_append, show 0 + 4 = z.cells.length from rfl, List.drop_left]
  | z :: es, i + 1, e', h => by
    show z.cells ++ esL (es.set i e') = (z.cells ++ esL es).take ((i + 1) * 4) ++ e'.cells ++ (z.cells ++ esL es).drop ((i + 1) * 4 + 4)
    rw [esL_set4 es i e' (by simpa using h), show (i + 1) * 4 = z.cells.length + i * 4 by show _ = 4 + _; omega, List.take_length_add_append, Nat.add_assoc, List.drop_length_add_append]
    simp only [List.append_assoc]
theorem esL_same {es : List ETx} {i : Nat} {e e' : ETx} (he : es[i]? = some e) (hc : e'.cells = e.cells) : esL (es.set i e') = esL es := by
  rw [esL_set4 es i e' (List.getElem?_eq_some_iff.1 he).1, hc]
  have e1 : e.cells = ((esL es).drop (i * 4)).take 4 := by
    refine List.ext_getElem? fun j => ?_
    by_cases hj : j < 4
    · rw [List.getElem?_take_of_lt hj, List.getElem?_drop]
      exact (esL_get es i e he j hj).symm
    · rw [List.getElem?_eq_none (by show 4 ≤ j; omega), List.getElem?_eq_none (by rw [List.length_take]; omega)]
  rw [e1, List.append_assoc, ← List.drop_drop, List.take_append_drop, List.take_append_drop]
theorem own_kps2 {F : Nat → Prop} {w w' : World} {base n size g cap : Nat} {e : TypeId} {xs : List Value} (h : w.ownsRow base e size (.slice (some ⟨g, 0, none⟩) n cap) n xs) (hk : Kps F w w') (hf : F g) : w'.ownsRow base e size (.slice (some ⟨g, 0, none⟩) n cap) n xs := by
  refine ⟨h.1, ?_⟩
  rcases h.2 with ⟨hv, _⟩ | ⟨g', cap', cur, hv, hb, hg, rest⟩
  · cases hv
  · cases hv
    exact .inr ⟨g, cap, cur, rfl, hb, row_kps hg hk hf, rest⟩
/-- A whole element is stored. -/
theorem wp_store_el {P : Program} {op : Oper} {a : Act} {w : World} {K : Act → World → Prop} {Q : Exit → Act → World → Prop} (ty : TypeId) (x y : Operand) (ho : op.op = .store ty x y)
    (g i base cap : Nat) (e : TypeId) (es : List ETx) (e' : ETx) (hx : a.eval x = .pointer (some ⟨g, i * 4, none⟩)) (hy : a.eval y = .agg e'.cells.toArray) (h1 : ∀ u ∈ e'.cells, u.oneCell' = true) (hi : (P.info? ty).map (·.size) = some 4)
    (hown : w.ownsRow base e 4 (.slice (some ⟨g, 0, none⟩) es.length cap) es.length (esL es)) (hj : i < es.length)
    (h : ∀ w', w'.ownsRow base e 4 (.slice (some ⟨g, 0, none⟩) es.length cap) es.length (esL (es.set i e')) → w.grownBy w' (some g) → K (a.put op.dst undef) w') : op.wp P a w K Q := by
  rcases hown.2 with ⟨h', _⟩ | ⟨g', cap', cur, h', hb, hg, hnc, hcm, hcs, htake⟩
  · simp at h'
  simp only [Value.slice.injEq, Option.some.injEq, Addr.mk.injEq, and_true, true_and] at h'
  obtain ⟨rfl, rfl⟩ := h'
  obtain ⟨l, hl⟩ : ∃ l, l = cur.toList := ⟨_, rfl⟩
  have hll : l.length = cap * 4 := by rw [hl, Array.length_toList, hcs]
  have hjc : i * 4 + 4 ≤ l.length := by rw [hll]; omega
  have hsplit : l = l.take (i * 4) ++ (l.drop (i * 4)).take 4 ++ l.drop (i * 4 + 4) := by
    rw [List.append_assoc, ← List.drop_drop, List.take_append_drop, List.take_append_drop]
  rw [← hl] at htake
  refine wp_store_part ty x y ho g (i * 4) (l.take (i * 4)) ((l.drop (i * 4)).take 4) (l.drop (i * 4 + 4)) e'.cells e (.agg e'.cells.toArray) hx hy rfl (by rw [List.length_take]; omega) (by rw [List.length_take, List.length_drop]; show _ = 4; omega) (by rw [← hsplit, hl, Array.toArray_toList]; exact hg) hi h1 ?_
  intro w' q1 q2
  refine h w' ⟨by rw [esL_length, List.length_set], .inr ⟨g, cap, _, rfl, hb, q1, hnc, hcm, ?_, ?_⟩⟩ q2
  · have h4 : e'.cells.length = 4 := rfl
    simp only [List.size_toArray, List.length_append, List.length_take, List.length_drop, h4]
    omega
  · rw [esL_set4 es i e' hj, ← htake]
    have h4 : (l.take (i * 4) ++ e'.cells).length = i * 4 + 4 := by
      rw [List.length_append, List.length_take]
      show _ + 4 = _
      omega
    rw [List.toList_toArray, List.take_append, List.take_of_length_le (by rw [h4]; omega), h4, List.take_take, Nat.min_eq_left (by omega), List.drop_take]
/-- The same, by its number. -/
theorem wp_store_el2 {P : Program} {op : Oper} {a : Act} {w : World} {K : Act → World → Prop} {Q : Exit → Act → World → Prop} (ty : TypeId) (x y : Operand) (ho : op.op = .store ty x y)
    (g i base n cap : Nat) (e : TypeId) (es : List ETx) (e' : ETx) (hx : a.eval x = .pointer (some ⟨g, i * 4, none⟩)) (hy : a.eval y = .agg e'.cells.toArray) (h1 : ∀ u ∈ e'.cells, u.oneCell' = true) (hi : (P.info? ty).map (·.size) = some 4)
    (hown : w.ownsRow base e 4 (.slice (some ⟨g, 0, none⟩) n cap) n (esL es)) (hn : es.length = n) (hj : i < n)
    (h : ∀ w', w'.ownsRow base e 4 (.slice (some ⟨g, 0, none⟩) n cap) n (esL (es.set i e')) → w.grownBy w' (some g) → K (a.put op.dst undef) w') : op.wp P a w K Q := by
  subst hn
  exact wp_store_el ty x y ho g i base cap e es e' hx hy h1 hi hown hj h
end Go.Proofs.YtdamhoagiooicaaDoor.Sha

/-
  The blocks that the statement on kinds makes: what is amiss with each, by reckoning. No conditions.
-/
namespace Go.Proofs.YtdamhoagiooicaaDoor.Sha
open Go Go.RowKit
def kdX (i : Nat) : TIn := ⟨hOne, i, [], 0⟩
def kdT (i : Nat) : TTx := ⟨i, [kdX i], [⟨0, zH⟩], 0⟩
/-- The row that is made: the first one, and n - 1 behind it. -/
def kdL (n : Nat) : List TTx := firstT 3 5 zH [] :: (List.range (n - 1)).map fun i => kdT (i + 1)
/-- What is put in place of the one at a place. -/
def kdW (how at' : Nat) (t : TTx) : TTx :=
  if how = 0 then ⟨t.ver, t.ins, [], t.time⟩
  else if how = 1 then (if 0 < at' then firstT at' 1 zH [] else ⟨0, [⟨zH, 77, [], 0⟩], [⟨0, zH⟩], 0⟩)
  else if how = 2 then (if 0 < at' then ⟨t.ver, t.ins ++ t.ins, t.outs, t.time⟩ else t)
  else if 1 < at' then ⟨t.ver, [⟨hOne, 1, [], 0⟩], t.outs, t.time⟩ else t
def kdAt (n i : Nat) : TTx := if i = 0 then firstT 3 5 zH [] else kdT i
def kdC (n at' how : Nat) : List TTx := (kdL n).set at' (kdW how at' (kdAt n at'))
/-- What is amiss then. -/
def kdR (how at' : Nat) : Nat × Option Nat :=
  if how = 0 then (4, some at') else if how = 1 then (7, some at') else if how = 2 then (if 0 < at' then (6, some at') else (0, none)) else if 1 < at' then (6, none) else (0, none)
def rowR (l : List TTx) : Nat × Option Nat :=
  if l.length = 0 ∨ 200 < l.length then (4, none) else if 20000 < 80 + lenN l.length + (txsB l).length then (3, none)
  else if (eachR l).1 ≠ 0 then eachR l else if twiceB (insAll l) = true then (6, none) else (0, none)
theorem blkR_row {x : TBlk} (hh : HdOk x.head) (hw : workB x.head.work = false) (hr : blRoot x = x.head.root) : blkR x = rowR x.txs := by
  unfold blkR rowR
  rw [hw, if_neg (by simp), blkB_len hh, if_pos hr]
def smallB (t : TTx) : Bool := decide (t.ver ≤ 4294967295) && decide (t.time ≤ 4294967295) && decide (t.ins.length ≤ 1000) && decide (t.outs.length ≤ 1000)
  && (t.ins.all fun x => decide (x.h.length = 32) && decide (x.n ≤ 4294967295) && decide (x.seq ≤ 4294967295) && decide (x.key.length ≤ 100000)) && t.outs.all fun y => decide (y.lock.length = 32) && decide (y.val ≤ 18446744073709551615)
theorem smallB_small {t : TTx} (h : smallB t = true) : TxSmall t := by
  unfold smallB at h
  simp only [Bool.and_eq_true, decide_eq_true_eq, List.all_eq_true] at h
  obtain ⟨⟨⟨⟨⟨h1, h2⟩, h3⟩, h4⟩, h5⟩, h6⟩ := h
  exact ⟨⟨⟨h1, h2⟩, fun x hx => ⟨(h5 x hx).1.1.1, (h5 x hx).1.1.2, (h5 x hx).1.2⟩, fun y hy => h6 y hy, fun x hx => Nat.le_trans (h5 x hx).2 (by omega), by omega, by omega⟩, h3, h4, fun x hx => (h5 x hx).2⟩
set_option maxRecDepth 100000 in
theorem kd_row : ∀ n, n < 9 → ∀ at', at' < n + 2 → ∀ how, how < 4 → rowR (kdC (n + 2) at' how) = kdR how at' := by decide +kernel
set_option maxRecDepth 100000 in
theorem kd_smalls : ∀ n, n < 9 → ∀ at', at' < n + 2 → ∀ how, how < 4 → (kdC (n + 2) at' how).all smallB = true := by decide +kernel
theorem kd_small {n at' how : Nat} (hn : n < 9) (ha : at' < n + 2) (hh : how < 4) : ∀ t ∈ kdC (n + 2) at' how, TxSmall t := fun t ht => smallB_small (List.all_eq_true.1 (kd_smalls n hn at' ha how hh) t ht)
theorem kdL_length (n : Nat) (hn : 1 ≤ n) : (kdL n).length = n := by
  unfold kdL
  rw [List.length_cons, List.length_map, List.length_range]
  omega
theorem kdL_succ (n : Nat) (hn : 1 ≤ n) : kdL (n + 1) = kdL n ++ [kdT n] := by
  obtain ⟨m, rfl⟩ : ∃ m, n = m + 1 := ⟨n - 1, by omega⟩
  unfold kdL
  rw [Nat.add_sub_cancel, Nat.add_sub_cancel, List.range_succ, List.map_append]
  rfl
theorem kdL_get {n i : Nat} (h : i < n) : (kdL n)[i]? = some (kdAt n i) := by
  unfold kdL kdAt
  cases i with
  | zero => rfl
  | succ i =>
    rw [List.getElem?_cons_succ, List.getElem?_map, List.getElem?_range (by omega), if_neg (by omega)]
    rfl
theorem kdT_ok (i : Nat) (h : i ≤ 4294967295) : TxOk (kdT i) ∧ InOk (kdX i) := ⟨⟨h, by show 0 ≤ _; omega⟩, rfl, h, by show 0 ≤ _; omega⟩
theorem kdT_base (i : Nat) : baseB (kdT i) = false := by
  show isNullIn (kdX i) = false
  rfl
end Go.Proofs.YtdamhoagiooicaaDoor.Sha

/-
  An append for which there is no room lays new memory; what stands while the statement on kinds makes its block. Conditions: those that each states.
-/
namespace Go.Proofs.YtdamhoagiooicaaDoor.Sha
open Go Go.RowKit
theorem wp_append_full {P : Program} (w : World) {o : Oper} {a : Act} {K : Act → World → Prop} {Q : Exit → Act → World → Prop} (s x : Operand) (t : TypeId)
    (ho : o.op = Op.call { callee := Callee.builtin Builtin.append, args := #[s, x], argTypes := #[t, t] })
    (e : TypeId) (i : TypeInfo) (z : Value) (size bytes : Nat) (ht : P.underlying t = some (.slice e)) (hi : P.info? e = some i) (hz : i.zero = some z)
    (hsize : i.size = size) (hby : i.bytes = bytes) (hzs : z.cells.size = size)
    (g n cap : Nat) (xs : List Value) (hs : a.eval s = .slice (some ⟨g, 0, none⟩) n cap) (hxl : xs.length = n * size) (holds : ∀ j u, xs[j]? = some u → w.cell? ((⟨g, 0, none⟩ : Addr).add j) = some u)
    (ad : Addr) (m c : Nat) (news : List Value) (hx : a.eval x = .slice (some ad) m c) (hl : news.length = m * size) (hnews : ∀ j u, news[j]? = some u → w.cell? (ad.add j) = some u)
    (hroom : cap < n + m) (h63 : n + m ≤ maxLen) (hbytes : (n + m) * bytes ≤ 140737488355328)
    (h : ∀ C w', w'.ownsRow w.heap.size e size (.slice (some ⟨w.heap.size, 0, none⟩) (n + m) C) (n + m) (xs ++ news) → Below w.heap.size w w' → K (a.put o.dst (.slice (some ⟨w.heap.size, 0, none⟩) (n + m) C)) w') : o.wp P a w K Q := by
  subst hsize
  subst hby
  have hsmall : n + m ≤ 9223372036854775807 := by simp only [maxLen] at h63; omega
  have hlen : (xs ++ news).length = (n + m) * i.size := by rw [List.length_append, hxl, hl, Nat.add_mul]
  have hr := run_append_grow (P := P) w t o.type e i z ht hi hz ⟨g, 0, none⟩ n cap xs hxl holds ad m c news hl hnews (by omega) (by omega) (growslice_fits (by omega) hbytes)
  have hge := grownCap_ge w (n + m) cap e
  have hcm : grownCap w (n + m) cap e ≤ maxLen := grownCap_le_maxLen w (n + m) cap e h63
  unfold Oper.wp execOp
  simp only [ho, resolve, invoke, builtin, Sem.run_bind, Sem.run_pure, Result.andThen_ok, List.map_toArray, List.map_cons, List.map_nil, hs, hx, hr]
  refine h _ _ ⟨hlen, .inr ⟨w.heap.size, _, _, rfl, Nat.le_refl _, heap_alloc_new w.drew _, hge, hcm, ?_, ?_⟩⟩ ⟨rfl, rfl, rfl, by simp, fun k hk => heap_alloc_old w.drew _ hk⟩
  · simp only [Array.size_append, List.size_toArray, size_zeroCells, hzs, hxl, hl, ← Nat.add_mul]
    congr 1
    omega
  · simp only [Array.toList_append, List.append_assoc]
    rw [← List.append_assoc, ← hlen]
    exact List.take_left
def kdHd : THd := ⟨0, zH, zH, 0, 1, 0⟩
def PD (e : ETx) (W : World) : Prop := InsAt W e.iv e.t.ins ∧ OutsAt W e.ov e.t.outs
/-- An element out of a literal: a row of one input in a block of its own. -/
def KdR (e : ETx) (W : World) : Prop := ∃ gi go x y, e.iv = .slice (some ⟨gi, 0, none⟩) 1 1 ∧ e.ov = .slice (some ⟨go, 0, none⟩) 1 1 ∧ e.t.ins = [x] ∧ e.t.outs = [y] ∧ OutOk y ∧ W.heap[gi]? = some (.cells (inL x (.slice none 0 0)).toArray 46 (0, 0)) ∧ W.heap[go]? = some (.cells (outL y).toArray 48 (0, 0)) ∧ e.lo ≤ gi ∧ gi < go ∧ go < e.hi
def PK (e : ETx) (W : World) : Prop := PD e W ∧ (baseB e.t = false → KdR e W)
structure KdB (base g8 : Nat) (hd : THd) (vb v : Value) (es : List ETx) (w0 W : World) : Prop where
  bel : Below w0.heap.size w0 W
  box : BlBox W g8 hd vb
  row : RowT PK base W v es
  vo : v.ownBlock ≠ some g8
  off : ∀ e ∈ es, g8 < e.lo ∨ e.hi ≤ g8
  wb : w0.heap.size ≤ base
  bg : base ≤ g8
  los : ∀ e ∈ es, base ≤ e.lo
section
variable {base g8 : Nat} {hd : THd} {vb v v' : Value} {es : List ETx} {e : ETx} {w0 W W' : World}
theorem KdB.low (h : KdB base g8 hd vb v es w0 W) : base ≤ W.heap.size := Nat.le_trans h.bg (Nat.le_of_lt h.box.lt)
theorem KdB.lt (h : KdB base g8 hd vb v es w0 W) : g8 < W.heap.size := h.box.lt
theorem KdB.below (h : KdB base g8 hd vb v es w0 W) (hb : Below W.heap.size W W') : KdB base g8 hd vb v es w0 W' :=
  ⟨h.bel.trans (hb.mono h.bel.size), h.box.below hb, h.row.keep hb, h.vo, h.off, h.wb, h.bg, h.los⟩
theorem KdB.push (h : KdB base g8 hd vb v es w0 W) (ok : TxOk e.t) (hi : e.hi ≤ W.heap.size) (st : Sty (fun k => e.lo ≤ k ∧ k < e.hi) W (PK e)) (ha : ∀ a ∈ es, a.hi ≤ e.lo) (ho : ∀ q, v.ownBlock = some q → q < e.lo) (hg : g8 < e.lo)
    (ao : W'.ownsRow base 32 4 v' (es.length + 1) (esL es ++ e.cells)) (ag : W.grownBy W' v.ownBlock) (at' : v'.ownBlock = v.ownBlock ∨ v'.ownBlock = some W.heap.size) : KdB base g8 hd vb v' (es ++ [e]) w0 W' := by
  refine ⟨h.bel.grown ag h.bel.size (fun k hk => Nat.le_trans h.wb (h.row.own.lt k hk).1), h.box.far ag h.vo, h.row.push ok hi st ha (fun q hq => .inl (ho q hq)) ao ag at', fun e2 => ?_, fun a ha => ?_, h.wb, h.bg, fun a ha => ?_⟩
  · rcases at' with e3 | e3
    · exact h.vo (by rw [← e3]; exact e2)
    · rw [e3] at e2
      have := Option.some.inj e2
      have := h.lt
      omega
  · rcases List.mem_append.1 ha with ha | ha
    · exact h.off a ha
    · rw [List.mem_singleton.1 ha]
      exact .inl hg
  · rcases List.mem_append.1 ha with ha | ha
    · exact h.los a ha
    · rw [List.mem_singleton.1 ha]
      exact Nat.le_trans h.bg (Nat.le_of_lt hg)
theorem KdB.store (h : KdB base g8 hd vb v es w0 W) (hb : BlBox W' g8 hd v) (g : W.grownBy W' (some g8)) : KdB base g8 hd v v es w0 W' :=
  ⟨h.bel.grown g h.bel.size (fun k hk => by cases hk; exact Nat.le_trans h.wb h.bg), hb, h.row.far g (.inr h.vo) (fun k hk e he => by
    have := Option.some.inj hk
    have := h.off e he
    omega), h.vo, h.off, h.wb, h.bg, h.los⟩
end
/-- An element out of a literal, laid in two blocks. -/
theorem kd_el {W : World} {gi go k : Nat} (hi : W.heap[gi]? = some (.cells (inL (kdX k) (.slice none 0 0)).toArray 46 (0, 0))) (ho : W.heap[go]? = some (.cells (outL ⟨0, zH⟩).toArray 48 (0, 0))) (hlt : gi < go) (hk : k ≤ 4294967295) :
    Sty (fun j => gi ≤ j ∧ j < go + 1) W (PK ⟨kdT k, .slice (some ⟨gi, 0, none⟩) 1 1, .slice (some ⟨go, 0, none⟩) 1 1, gi, go + 1⟩) := fun U hU => by
  have r1 := row_kps hi hU ⟨Nat.le_refl _, by omega⟩
  have r2 := row_kps ho hU ⟨by omega, by omega⟩
  exact ⟨⟨insAt_one r1 (kdT_ok k hk).2 (nil_key _), outsAt_one r2 ⟨rfl, by show 0 ≤ _; omega⟩⟩, fun _ => ⟨gi, go, kdX k, ⟨0, zH⟩, rfl, rfl, rfl, rfl, ⟨rfl, by show 0 ≤ _; omega⟩, r1, r2, Nat.le_refl _, hlt, by show go < go + 1; omega⟩⟩
theorem kd_ones (k gi go : Nat) : ∀ u ∈ txL (kdT k) (.slice (some ⟨gi, 0, none⟩) 1 1) (.slice (some ⟨go, 0, none⟩) 1 1), u.oneCell' = true := by
  intro u hu
  simp only [txL, List.mem_cons, List.not_mem_nil, or_false] at hu
  rcases hu with rfl | rfl | rfl | rfl <;> rfl
/-- The first one, newly made. -/
theorem kd_first {W W' : World} {u : Value} {t : TTx} (hb : baseB t = true) (st : TxNew W W' u t) : ∃ e : ETx, e.t = t ∧ u = .agg e.cells.toArray ∧ TxOk e.t ∧ e.lo = W.heap.size ∧ e.hi = W'.heap.size ∧ Sty (fun k => e.lo ≤ k ∧ k < e.hi) W' (PK e) := by
  obtain ⟨hok, iv, ov, hu, _, _⟩ := st.now
  refine ⟨⟨t, iv, ov, W.heap.size, W'.heap.size⟩, rfl, hu, hok, rfl, rfl, st.imp (fun k hk hl => ⟨hl, hk⟩) (fun U hU => ?_)⟩
  obtain ⟨_, iv', ov', e', h1, h2⟩ := hU
  rw [hu] at e'
  have e' : txL t iv ov = txL t iv' ov' := by simpa using e'
  simp only [txL, List.cons.injEq] at e'
  obtain ⟨_, rfl, rfl, _⟩ := e'
  exact ⟨⟨h1, h2⟩, fun h => absurd (hb.symm.trans h) (by simp)⟩
/-- One element alone. -/
theorem kd_row1 {base g : Nat} {W : World} {e : ETx} (hr : W.heap[g]? = some (.cells e.cells.toArray 32 (0, 0))) (hb : base ≤ g) (ok : TxOk e.t) (hi : e.hi ≤ g) (st : Sty (fun k => e.lo ≤ k ∧ k < e.hi) W (PK e)) : RowT PK base W (.slice (some ⟨g, 0, none⟩) 1 1) [e] := by
  have hlt := (Array.getElem?_eq_some_iff.1 hr).1
  refine ⟨?_, fun a ha => ?_, List.pairwise_singleton _ _, fun q hq a ha => ?_⟩
  · have h := own_of_row (base := base) (n := 1) (size := 4) hr hb rfl (by unfold maxLen; omega)
    simpa [esL] using h
  · rw [List.mem_singleton.1 ha]
    exact ⟨ok, Nat.le_trans hi (Nat.le_of_lt hlt), st⟩
  · rw [List.mem_singleton.1 ha]
    have hgq : g = q := Option.some.inj hq
    exact .inr (by omega)
/-- The block as it is then. -/
def KdD (g8 gw k cap : Nat) (ts : List TTx) (w0 W : World) : Prop := Below w0.heap.size w0 W ∧ BlBox W g8 kdHd (.slice (some ⟨gw, 0, none⟩) k cap) ∧ Sty (fun j => j ≠ g8) W (fun U => TxsAt U (.slice (some ⟨gw, 0, none⟩) k cap) ts)
theorem kd_map {es : List ETx} {e' : ETx} {k a how : Nat} (h : es.map (·.t) = kdL k) (he : e'.t = kdW how a (kdAt k a)) : (es.set a e').map (·.t) = kdC k a how := by
  rw [List.map_set, h, he]
  rfl
theorem kd_same {k a how : Nat} (ha : a < k) (h : kdW how a (kdAt k a) = kdAt k a) : kdC k a how = kdL k := by
  unfold kdC
  rw [h]
  refine List.ext_getElem? fun i => ?_
  rw [List.getElem?_set]
  split
  · rename_i e
    subst e
    rw [kdL_get ha, if_pos (by rw [kdL_length k (by omega)]; exact ha)]
  · rfl
section
variable {base g8 gw k cap : Nat} {es : List ETx} {w0 W W' : World}
theorem KdB.at3 (h : KdB base g8 kdHd (.slice (some ⟨gw, 0, none⟩) k cap) (.slice (some ⟨gw, 0, none⟩) k cap) es w0 W) : gw ≠ g8 ∧ base ≤ gw ∧ gw < W.heap.size := ⟨fun e => h.vo (by rw [e]; rfl), (h.row.own.lt gw rfl).1, (h.row.own.lt gw rfl).2⟩
theorem KdB.own (h : KdB base g8 kdHd (.slice (some ⟨gw, 0, none⟩) k cap) (.slice (some ⟨gw, 0, none⟩) k cap) es w0 W) (hk : es.length = k) : W.ownsRow base 32 4 (.slice (some ⟨gw, 0, none⟩) k cap) k (esL es) := by
  have o := h.row.own
  rwa [hk] at o
theorem KdB.cell (h : KdB base g8 kdHd (.slice (some ⟨gw, 0, none⟩) k cap) (.slice (some ⟨gw, 0, none⟩) k cap) es w0 W) (hk : es.length = k) {i : Nat} {e : ETx} (he : es[i]? = some e) : W.cell? ⟨gw, i * 4 + 1, none⟩ = some e.iv := by
  have r := own_range (h.own hk) (i * 4 + 1) e.iv (by rw [esL_get es i e he 1 (by omega)]; rfl)
  rwa [Nat.zero_add] at r
/-- Two inputs of no keys in a row of one's own. -/
theorem ins_two {W : World} {g C : Nat} {x : TIn} (h : W.ownsRow g 46 35 (.slice (some ⟨g, 0, none⟩) (1 + 1) C) (1 + 1) (inL x (.slice none 0 0) ++ inL x (.slice none 0 0))) (hx : InOk x) (hk : x.key = []) : InsAt W (.slice (some ⟨g, 0, none⟩) (1 + 1) C) [x, x] := by
  have hr := own_range h
  have hl := inL_length x (.slice none 0 0) hx.1
  have hc : 1 + 1 ≤ C := by
    rcases h.2 with ⟨hv, _⟩ | ⟨g', cap', cur, hv, _, _, hnc, _⟩
    · cases hv
    · cases hv
      exact hnc
  have key : KeyAt W (.slice none 0 0) x.key := by rw [hk]; exact nil_key W
  refine ⟨_, C, rfl, hc, fun _ => ⟨g, 0, rfl, fun i z hz => ?_⟩⟩
  have hi := (List.getElem?_eq_some_iff.1 hz).1
  simp at hi
  obtain rfl | rfl : i = 0 ∨ i = 1 := by omega
  · simp only [List.getElem?_cons_zero, Option.some.injEq] at hz
    subst hz
    exact ⟨hx, _, key, fun j u hj => by
      have := hr j u (by rw [List.getElem?_append_left (List.getElem?_eq_some_iff.1 hj).1]; exact hj)
      simpa using this⟩
  · simp only [List.getElem?_cons_succ, List.getElem?_cons_zero, Option.some.injEq] at hz
    subst hz
    exact ⟨hx, _, key, fun j u hj => by
      have := hr (35 + j) u (by rw [List.getElem?_append_right (by omega), hl, Nat.add_sub_cancel_left]; exact hj)
      simpa [Nat.add_assoc] using this⟩
theorem pd_ones {e : ETx} {U : World} (h : PD e U) : ∀ u ∈ e.cells, u.oneCell' = true := by
  have k := tx_one h.1 h.2
  rw [Array.all_eq_true_iff_forall_mem] at k
  exact fun u hu => k u (by simpa [ETx.cells] using hu)
theorem kd_ones2 (gi go : Nat) : ∀ u ∈ txL ⟨0, [⟨zH, 77, [], 0⟩], [⟨0, zH⟩], 0⟩ (.slice (some ⟨gi, 0, none⟩) 1 1) (.slice (some ⟨go, 0, none⟩) 1 1), u.oneCell' = true := by
  intro u hu
  simp only [txL, List.mem_cons, List.not_mem_nil, or_false] at hu
  rcases hu with rfl | rfl | rfl | rfl <;> rfl
theorem KdB.lowE (h : KdB base g8 kdHd (.slice (some ⟨gw, 0, none⟩) k cap) (.slice (some ⟨gw, 0, none⟩) k cap) es w0 W) {i : Nat} {e : ETx} (he : es[i]? = some e) : base ≤ e.lo := h.los e (List.mem_of_getElem? he)
theorem KdB.stE (h : KdB base g8 kdHd (.slice (some ⟨gw, 0, none⟩) k cap) (.slice (some ⟨gw, 0, none⟩) k cap) es w0 W) {e : ETx} (hm : e ∈ es) {q : Nat} (hq : q < e.lo ∨ e.hi ≤ q) (hg : W.grownBy W' (some q)) : Sty (fun j => j ≠ g8) W' (PD e) := by
  have h1 := (h.row.ok e hm).2.2.on (w' := W') (Kps.grown hg fun j _ hj e2 => by
    have h2 := Option.some.inj e2
    omega)
  have h3 := h.off e hm
  exact h1.imp (fun j _ hj => by omega) (fun _ p => p.1)
theorem KdB.el (h : KdB base g8 kdHd (.slice (some ⟨gw, 0, none⟩) k cap) (.slice (some ⟨gw, 0, none⟩) k cap) es w0 W) {i : Nat} {e : ETx} (he : es[i]? = some e) (hg : W.grownBy W' (some gw)) : Sty (fun j => j ≠ g8) W' (PD e) ∧ TxOk e.t :=
  ⟨h.stE (List.mem_of_getElem? he) (h.row.out gw rfl e (List.mem_of_getElem? he)) hg, (h.row.ok e (List.mem_of_getElem? he)).1⟩
theorem kd_txs {es' : List ETx} (own : W'.ownsRow base 32 4 (.slice (some ⟨gw, 0, none⟩) k cap) k (esL es')) (hn : es'.length = k) (hg : gw ≠ g8) (els : ∀ a ∈ es', TxOk a.t ∧ Sty (fun j => j ≠ g8) W' (PD a)) : Sty (fun j => j ≠ g8) W' (fun U => TxsAt U (.slice (some ⟨gw, 0, none⟩) k cap) (es'.map (·.t))) := fun U hU =>
  TxsAt.of_own (by rw [hn]; exact own_kps2 own hU hg) fun a ha => ⟨(els a ha).1, ((els a ha).2 U hU).1, ((els a ha).2 U hU).2⟩
theorem KdB.set (h : KdB base g8 kdHd (.slice (some ⟨gw, 0, none⟩) k cap) (.slice (some ⟨gw, 0, none⟩) k cap) es w0 W) (hk : es.length = k) {i : Nat} {e' : ETx} (ok : TxOk e'.t) (hp : Sty (fun j => j ≠ g8) W' (PD e')) (own : W'.ownsRow base 32 4 (.slice (some ⟨gw, 0, none⟩) k cap) k (esL (es.set i e'))) (hg : W.grownBy W' (some gw)) :
    KdD g8 gw k cap ((es.set i e').map (·.t)) w0 W' := by
  refine ⟨h.bel.grown hg h.bel.size (fun j hj => by have := Option.some.inj hj; have := h.at3.2.1; have := h.wb; omega), h.box.far hg (fun e => h.at3.1 (Option.some.inj e)), kd_txs own (by rw [List.length_set]; exact hk) h.at3.1 fun a ha => ?_⟩
  rcases List.mem_or_eq_of_mem_set ha with ha | rfl
  · exact ⟨(h.row.ok a ha).1, h.stE ha (h.row.out gw rfl a ha) hg⟩
  · exact ⟨ok, hp⟩
theorem KdB.stay (h : KdB base g8 kdHd (.slice (some ⟨gw, 0, none⟩) k cap) (.slice (some ⟨gw, 0, none⟩) k cap) es w0 W) (hk : es.length = k) (hs : es.map (·.t) = kdL k) {a how : Nat} (ha : a < k) (hw : kdW how a (kdAt k a) = kdAt k a) : KdD g8 gw k cap (kdC k a how) w0 W := by
  refine ⟨h.bel, h.box, ?_⟩
  rw [kd_same ha hw, ← hs]
  refine kd_txs (by have o := h.row.own; rwa [hk] at o) hk h.at3.1 fun a ha => ⟨(h.row.ok a ha).1, ?_⟩
  have h3 := h.off a ha
  exact (h.row.ok a ha).2.2.imp (fun j _ hj => by have h5 := hj.1; have h6 := hj.2; show j ≠ g8; omega) (fun _ p => p.1)
theorem KdB.inner (h : KdB base g8 kdHd (.slice (some ⟨gw, 0, none⟩) k cap) (.slice (some ⟨gw, 0, none⟩) k cap) es w0 W) (hk : es.length = k) {i q : Nat} {e e' : ETx} (he : es[i]? = some e) (hc : e'.cells = e.cells) (ok : TxOk e'.t) (hp : Sty (fun j => j ≠ g8) W' (PD e')) (hg : W.grownBy W' (some q)) (hq : e.lo ≤ q ∧ q < e.hi) (hw : w0.heap.size ≤ q) :
    KdD g8 gw k cap ((es.set i e').map (·.t)) w0 W' := by
  have hm := List.mem_of_getElem? he
  have h1 := h.off e hm
  have h2 := h.row.out gw rfl e hm
  refine ⟨h.bel.grown hg h.bel.size (fun j hj => by have := Option.some.inj hj; omega), h.box.far hg (fun e2 => by have := Option.some.inj e2; omega),
    kd_txs (by
      rw [esL_same he hc]
      have o := h.row.own
      rw [hk] at o
      exact o.kept hg (.inr (fun e2 => by have h5 : gw = q := Option.some.inj e2; omega))) (by rw [List.length_set]; exact hk) h.at3.1 fun a ha => ?_⟩
  obtain ⟨j, hj⟩ := List.getElem?_of_mem ha
  rw [List.getElem?_set] at hj
  by_cases hij : i = j
  · rw [if_pos hij, if_pos (List.getElem?_eq_some_iff.1 he).1] at hj
    rw [← Option.some.inj hj]
    exact ⟨ok, hp⟩
  · rw [if_neg hij] at hj
    have hma := List.mem_of_getElem? hj
    have h4 := h.row.two he hj hij
    exact ⟨(h.row.ok a hma).1, h.stE hma (by omega) hg⟩
end
theorem kdAt_pos {k a : Nat} (h : 0 < a) : kdAt k a = kdT a := if_neg (by omega)
theorem outs_none (W : World) : OutsAt W (.slice none 0 0) [] := ⟨none, 0, rfl, by simp, fun h => absurd h (by simp)⟩
def KdInv (n base g8 : Nat) (hd : THd) (w0 : World) (vi : Value) (wr : World) : Prop :=
  ∃ (k : Nat) (es : List ETx) (v : Value), k ≤ n ∧ 1 ≤ k ∧ vi = .int .i64 k ∧ es.map (·.t) = kdL k ∧ KdB base g8 hd v v es w0 wr
theorem kdHd_ok : HdOk kdHd := ⟨by show 0 ≤ _; omega, rfl, rfl, by show 0 ≤ _; omega, by show 1 ≤ _; omega, by show 0 ≤ _; omega⟩
def kdWant (how at' : Nat) : Nat := if how = 0 then 104 else if how = 1 then 107 else if how = 2 then (if 0 < at' then 106 else 0) else if 1 < at' then 106 else 0
/-- What is wanted is what is amiss. -/
theorem kd_three (how at' : Nat) (_hh : how < 4) : (kdWant how at' = 0 ∧ kdR how at' = (0, none)) ∨ (how ≠ 3 ∧ ∃ q, q < 25 ∧ kdR how at' = (q + 1, some at') ∧ kdWant how at' = 101 + q) ∨ (how = 3 ∧ kdR how at' = (6, none) ∧ kdWant how at' = 106) := by
  obtain rfl | rfl | rfl | rfl : how = 0 ∨ how = 1 ∨ how = 2 ∨ how = 3 := by omega
  · exact .inr (.inl ⟨by omega, 3, by omega, rfl, rfl⟩)
  · exact .inr (.inl ⟨by omega, 6, by omega, rfl, rfl⟩)
  · by_cases h : 0 < at'
    · exact .inr (.inl ⟨by omega, 5, by omega, by simp [kdR, h], by simp [kdWant, h]⟩)
    · exact .inl ⟨by simp [kdWant, h], by simp [kdR, h]⟩
  · by_cases h : 1 < at'
    · exact .inr (.inr ⟨rfl, by simp [kdR, h], by simp [kdWant, h]⟩)
    · exact .inl ⟨by simp [kdWant, h], by simp [kdR, h]⟩
end Go.Proofs.YtdamhoagiooicaaDoor.Sha

/-
  The statements' own Fault, Same and Placed for an error with a place around it. Conditions: the errors are there, each its own.
-/
namespace Go.Proofs.YtdamhoagiooicaaDoor.Sha
open Go Go.RowKit
/-- A fault with a place around it. -/
def pC (c p : Int) : List Value := [.int .i64 c, .bool true, .int .i64 p, .bool false, .int .i64 0]
theorem placed_one (c p : Int) : ∀ u ∈ pC c p, u.oneCell' = true := by
  intro x hx
  simp [pC] at hx
  rcases hx with rfl | rfl | rfl | rfl | rfl <;> rfl
theorem placed_all (c p : Int) : (pC c p).toArray.all (·.oneCell') = true := by
  rw [Array.all_eq_true_iff_forall_mem]
  exact fun x hx => placed_one c p x (by simpa using hx)
set_option maxRecDepth 100000 in
theorem placed_any (c p : Int) (hc : c ≠ 0) (w : World) : Calls Tryd.prog 21 #[.int .i64 c, .int .i64 p] w fun e w' => e = .returned (.agg (pC c p).toArray) ∧ Below w.heap.size w w' := by
  have hq : (c == 0) = false := by rw [beq_eq_false_iff_ne]; exact hc
  clear hc
  go_enter Tryd.func21, Tryd.ntmps21
  go_wp2
  refine bodyPost_ret (v := .agg (pC c p).toArray) (by simp [results, Tryd.results21, go_sem]; rfl) rfl ⟨rfl, ?_⟩
  exact (Below.refl _ _).alloc (Nat.le_refl _) _
set_option maxRecDepth 100000 in
theorem same_placed (c p : Int) (w : World) : Calls Tryd.prog 47 #[.agg (pC c p).toArray, .agg (pC c p).toArray] w fun e w' => e = .returned (.bool true) ∧ Below w.heap.size w w' := by
  show Calls Tryd.prog 47 #[.agg #[.int .i64 c, .bool true, .int .i64 p, .bool false, .int .i64 0], .agg #[.int .i64 c, .bool true, .int .i64 p, .bool false, .int .i64 0]] w _
  have hq : (c == c) = true := by simp
  have hp : (p == p) = true := by simp
  go_enter Tryd.func47, Tryd.ntmps47
  go_wp2
  go_ret
  exact ⟨rfl, ((Below.refl _ _).alloc (Nat.le_refl _) _).alloc (by simp) _⟩
set_option maxHeartbeats 2000000 in
set_option maxRecDepth 100000 in
theorem fault_at (E : Nat → Addr) (q : Nat) (p : Int) (g : Nat) (w : World) (hE : Errs w E) (hq : q < 25) (hr : w.heap[g]? = some (.cells #[.int .i64 p, errV E (q + 1)] 109 (0, 0))) :
    Calls Tryd.prog 48 #[.iface 107 (.pointer (some ⟨g, 0, none⟩))] w fun e w' => e = .returned (.agg (pC ((101 + q : Nat) : Int) p).toArray) ∧ Below w.heap.size w w' := by
  obtain ⟨kk, hkk⟩ : ∃ kk : Int, kk = ((101 + q : Nat) : Int) := ⟨_, rfl⟩
  rw [← hkk]
  have HN : Hid (kk ≠ 0) := by show _ ≠ _; omega
  have hta : ∀ W, (Instr.typeAssert (.iface 145 (.pointer (some (E q)))) 51 107 true).run Tryd.prog W = .ok (.tuple #[.pointer none, .bool false]) W := fun W => by kernel_rfl
  have htb : ∀ W, (Instr.typeAssert (.iface 107 (.pointer (some ⟨g, 0, none⟩))) 51 107 true).run Tryd.prog W = .ok (.tuple #[.pointer (some ⟨g, 0, none⟩), .bool true]) W := fun W => by kernel_rfl
  have HS : Hid (∀ W, Below w.heap.size w W → Calls Tryd.prog 74 #[errV E (q + 1)] W fun e w' => e = .returned (.int .i64 kk) ∧ Below W.heap.size W w') := fun W hW => sentinel_any E q kk hkk _ (hE.below hW) hq
  have C0 : Hid (∀ W, Below w.heap.size w W → W.cell? ⟨g, 0, none⟩ = some (.int .i64 p)) := fun W hW => by rw [cell_of_row _ _ _ _ _ _ (row_below hr hW)]; rfl
  have C1 : Hid (∀ W, Below w.heap.size w W → W.cell? ⟨g, 1, none⟩ = some (.iface 145 (.pointer (some (E q))))) := fun W hW => by rw [cell_of_row _ _ _ _ _ _ (row_below hr hW)]; rfl
  clear hkk hE hr
  go_enter Tryd.func48, Tryd.ntmps48
  go_upto_region 1 with fail
  have f1 := heap_alloc_new w (.cells (fC 0).toArray 59 (0, 0))
  have b1 := (Below.refl w.heap.size w).alloc (Nat.le_refl _) (.cells (fC 0).toArray 59 (0, 0))
  generalize hw1 : World.alloc _ _ = w1
  have e1 : w.alloc (.cells (fC 0).toArray 59 (0, 0)) = w1 := hw1
  rw [e1] at f1 b1
  have FR := Lib.hid f1
  have B1 := Lib.hid b1
  have c1 := C1.out w1 b1
  clear hw1 e1 f1 b1
  go_wp2_with fail
  clear c1 hta htb
  refine wp_region_held_drew (S := (fun w' => Below w.heap.size w w')) (by kernel_rfl) (Below.drew B1.out) (fun hHeld => ?_)
  have FR : Hid (w1.drew.heap[w.heap.size]? = some (.cells (fC 0).toArray 59 (0, 0))) := FR.out
  generalize hwd : w1.drew = wd at FR hHeld ⊢
  clear hwd
  refine held_take (i := 0) (v := (.pointer (some ⟨g, 0, none⟩))) rfl (by kernel_rfl) (by kernel_rfl) (by kernel_rfl) (fun _ _ _ h => h) (Or.inl ⟨by rfl, fun w' _ => by kernel_rfl⟩) hHeld ?_
  go_frame
  refine held_take (i := 1) (v := (.pointer (some ⟨g, 0, none⟩))) rfl (by kernel_rfl) (by kernel_rfl) (by kernel_rfl) (fun _ _ _ h => h) (Or.inl ⟨by rfl, fun w' _ => by kernel_rfl⟩) hHeld ?_
  go_frame
  refine held_take (i := 2) (v := (.pointer (some ⟨g, 1, none⟩))) rfl (by kernel_rfl) (by kernel_rfl) (by kernel_rfl) (fun _ _ _ h => h) (Or.inl ⟨by rfl, fun w' _ => by kernel_rfl⟩) hHeld ?_
  go_frame
  refine held_take (i := 3) (v := (.iface 145 (.pointer (some (E q))))) rfl (by kernel_rfl) (by kernel_rfl) (by kernel_rfl) (fun _ _ _ h => h) (yieldsIf_load_one (by rfl) 51 (.tmp 42) rfl g (1) rfl _ _ (fun w' hw' => C1.out w' hw') Tryd.underlying51 rfl) hHeld ?_
  go_frame
  refine held_take (i := 5) (v := (.pointer (some ⟨g, 0, none⟩))) rfl (by kernel_rfl) (by kernel_rfl) (by kernel_rfl) (fun _ _ _ h => h) (Or.inl ⟨by rfl, fun w' _ => by kernel_rfl⟩) hHeld ?_
  go_frame
  refine held_take (i := 6) (v := (.pointer (some ⟨g, 0, none⟩))) rfl (by kernel_rfl) (by kernel_rfl) (by kernel_rfl) (fun _ _ _ h => h) (Or.inl ⟨by rfl, fun w' _ => by kernel_rfl⟩) hHeld ?_
  go_frame
  refine held_take (i := 7) (v := (.pointer (some ⟨g, 0, none⟩))) rfl (by kernel_rfl) (by kernel_rfl) (by kernel_rfl) (fun _ _ _ h => h) (Or.inl ⟨by rfl, fun w' _ => by kernel_rfl⟩) hHeld ?_
  go_frame
  refine held_take (i := 8) (v := (.int .i64 p)) rfl (by kernel_rfl) (by kernel_rfl) (by kernel_rfl) (fun _ _ _ h => h) (yieldsIf_load_one (by rfl) 3 (.tmp 47) rfl g (0) rfl _ _ (fun w' hw' => C0.out w' hw') Tryd.underlying3 rfl) hHeld ?_
  go_frame
  refine wpAnyH_ready (rs := [4]) (by kernel_rfl) (by simp) (held_cons rfl (fun K hK => ?_) AllReadyH.nil)
  go_simp
  refine (HS.out _ hHeld).mono ?_
  rintro e v1 ⟨rfl, bb⟩
  have FR := Lib.hid (row_below FR.out bb)
  have hv1 := hHeld.trans (bb.mono hHeld.size)
  clear bb hHeld
  go_wp2_with fail
  refine hK.out _ _ hv1 (fun hHeld => ?_)
  clear hK K hv1
  refine wpAnyH_ready (rs := [9]) (by kernel_rfl) (by simp) (held_cons rfl (fun K hK => ?_) AllReadyH.nil)
  go_simp
  refine (placed_any kk p HN.out _).mono ?_
  rintro e v2 ⟨rfl, bb⟩
  have FR := Lib.hid (row_below FR.out bb)
  have hv2 := hHeld.trans (bb.mono hHeld.size)
  clear bb hHeld
  go_wp2_with fail
  refine hK.out _ _ hv2 (fun hHeld => ?_)
  clear hK K hv2
  refine wpAnyH_ready (rs := [10]) (by kernel_rfl) (by simp) (held_cons rfl (fun K hK => ?_) AllReadyH.nil)
  rw [if_pos (by rfl)]
  refine wp_store_whole 59 (.tmp 2) (.tmp 49) rfl w.heap.size (fC 0) (pC kk p) 59 rfl rfl (rfl) FR.out (by kernel_rfl) (placed_all _ _) ?_
  intro v3 q1 q2
  have FR := Lib.hid q1
  have hv3 := hHeld.grown q2 hHeld.size (fun k hk => by cases hk; exact Nat.le_refl _)
  clear q1 q2 hHeld
  go_frame
  refine hK.out _ _ hv3 (fun hHeld => ?_)
  clear hK K hv3
  refine wpAnyH_done (by kernel_rfl) ?_ _
  go_wp2_with fail
  refine bodyPost_ret (results_cell_row rfl _ _ w.heap.size 59 (pC kk p).toArray (0, 0) _ rfl FR.out Tryd.underlying59 rfl (by kernel_rfl)) rfl ⟨rfl, hHeld⟩
theorem fltv_fault {w : World} {E : Nat → Addr} {v : Value} {q p : Nat} (h : FltV w E v (q + 1, some p)) : ∃ g, v = .iface 107 (.pointer (some ⟨g, 0, none⟩)) ∧ w.heap[g]? = some (.cells #[.int .i64 (p : Int), errV E (q + 1)] 109 (0, 0)) := by
  rcases h with ⟨h, _⟩ | ⟨q', p', g, h1, h2, h3⟩
  · simp at h
  · simp only [Prod.mk.injEq, Option.some.injEq, Nat.add_right_cancel_iff] at h1
    obtain ⟨rfl, rfl⟩ := h1
    exact ⟨g, h2, h3⟩
set_option maxRecDepth 100000 in
/-- An error with a place around it is the fault that it should be. -/
theorem same_at (E : Nat → Addr) (q p : Nat) (v : Value) (w : World) (hE : Errs w E) (hq : q < 25) (hf : FltV w E v (q + 1, some p)) :
    Calls Tryd.prog 20 #[v, .agg (pC ((101 + q : Nat) : Int) (p : Int)).toArray] w fun e w' => e = .returned (.bool true) ∧ Below w.heap.size w w' := by
  obtain ⟨kk, hkk⟩ : ∃ kk : Int, kk = ((101 + q : Nat) : Int) := ⟨_, rfl⟩
  obtain ⟨pp, hpp⟩ : ∃ pp : Int, pp = (p : Int) := ⟨_, rfl⟩
  obtain ⟨cs, hcs⟩ : ∃ cs, cs = pC kk pp := ⟨_, rfl⟩
  have HF : Hid (∀ W, Below w.heap.size w W → Calls Tryd.prog 48 #[v] W fun e w' => e = .returned (.agg cs.toArray) ∧ Below W.heap.size W w') := fun W hW => by
    obtain ⟨g, rfl, hr⟩ := fltv_fault hf
    rw [hcs, hkk, hpp]
    exact fault_at E q (p : Int) g W (hE.below hW) hq (row_below hr hW)
  have HSM : Hid (∀ W, Calls Tryd.prog 47 #[.agg cs.toArray, .agg cs.toArray] W fun e w' => e = .returned (.bool true) ∧ Below W.heap.size W w') := fun W => by rw [hcs]; exact same_placed kk pp W
  have LC : Hid (cs.toArray.size = 5) := by show _ = _; rw [hcs]; rfl
  rw [← hkk, ← hpp, ← hcs]
  clear hkk hpp hcs hE hf
  go_enter Tryd.func20, Tryd.ntmps20
  go_wp2_with fail
  have e1 := heap_alloc_new w (.cells cs.toArray 59)
  have b1 : Below w.heap.size w (w.alloc (.cells cs.toArray 59)) := (Below.refl _ _).alloc (Nat.le_refl _) _
  generalize hw1 : World.alloc _ _ = w1
  have e0 : w.alloc (.cells cs.toArray 59) = w1 := hw1
  rw [e0] at e1 b1
  have E1 := Lib.hid e1
  have B1 := Lib.hid b1
  clear e0 hw1 e1 b1
  refine wp_region_below (by kernel_rfl) (by kernel_rfl) w1 (Below.refl _ _) ?_
  go_big_quiet_step ((intro _; rfl))
  go_big_quiet_step ((intro hw'; exact cls hw' (HF.out _ (B1.out.trans (hw'.mono B1.out.size)))))
  go_big_quiet_want
  refine quiet_load_row 59 (.tmp 3) rfl w.heap.size rfl 59 cs.toArray (0, 0) _ (fun w' hw' => row_below E1.out hw') Tryd.underlying59 rfl (by rw [LC.out]; kernel_rfl) ?_
  go_frame
  go_big_quiet_on
  go_big_quiet_step ((intro hw'; exact cls hw' (HSM.out _)))
  go_big_quiet_step ((intro _; rfl))
  refine wpQuiet_nil ?_
  intro w2 hw2
  have B2 := Lib.hid (B1.out.trans (hw2.mono B1.out.size))
  clear hw2
  go_wp2_with fail
  go_ret
  exact ⟨rfl, B2.out⟩
end Go.Proofs.YtdamhoagiooicaaDoor.Sha
