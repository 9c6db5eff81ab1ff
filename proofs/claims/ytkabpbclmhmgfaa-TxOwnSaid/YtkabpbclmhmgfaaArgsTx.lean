/-
  How a transaction that came in by value reads. No conditions.
-/
import Derived.Deep.Slices
import Derived.Test.YtkabpbclmhmgfaaArgsPt
import Derived.Test.YtkabpbclmhmgfaaTxMath
namespace Go.Proofs.Ytkabpbclmhmgfaa.Sha
open Go Go.ChangeShapes Go.WideShapes Go.ChangeAt Go.RowKit Go.Deep

theorem in_fields : (Try.prog.fieldsOf 36).toList.map (fun f => (f.name, f.type, f.offset)) = [("From", 33, 0), ("Key", 34, 33), ("Seq", 22, 34)] := by kernel_rfl
theorem in_under : Try.prog.underlying 36 = some (.struct (Try.prog.fieldsOf 36)) := by kernel_rfl
theorem out_fields : (Try.prog.fieldsOf 39).toList.map (fun f => (f.name, f.type, f.offset)) = [("Value", 37, 0), ("Lock", 31, 1)] := by kernel_rfl
theorem out_under : Try.prog.underlying 39 = some (.struct (Try.prog.fieldsOf 39)) := by kernel_rfl
theorem tx_fields : (Try.prog.fieldsOf 26).toList.map (fun f => (f.name, f.type, f.offset)) = [("Version", 22, 0), ("Ins", 23, 1), ("Outs", 24, 2), ("Time", 22, 3)] := by kernel_rfl
theorem tx_under : Try.prog.underlying 26 = some (.struct (Try.prog.fieldsOf 26)) := by kernel_rfl
theorem key_cells {H : Type} {enc : TypeId × Value → H} {W : World} {fuel : Nat} {cs : List Value} {x : DataW H × List MemPlace} (hf : DataW.trod enc Try.prog W 0 (fun _ => true) true fuel 34 cs = some x) :
    ∃ kv key, cs = [kv] ∧ KeyAt W kv key ∧ key.length ≤ 9223372036854775807 := by
  rcases open_ints Try.underlying34 Try.underlying5 (by kernel_rfl) hf with ⟨hcs, _⟩ | ⟨a, l, c, zs, hcs, _, hl, hm, hz, _, hcell, hwz⟩
  · exact ⟨_, [], hcs, ⟨.inl ⟨_, _, rfl, rfl⟩, _, _, rfl⟩, by simp⟩
  · have hr : IsRow .u8 W (some a) l c zs := .inr ⟨a, rfl, hl, hm, by simpa using hz, hcell, hwz⟩
    obtain ⟨bs, hs⟩ := src_of_row hr
    have hlen := hs.le.1
    exact ⟨_, bs, hcs, ⟨hs, _, _, by rw [hlen]⟩, by have := hr.len; omega⟩
set_option maxRecDepth 100000 in
theorem in_cells {H : Type} {enc : TypeId × Value → H} {W : World} {fuel : Nat} {cs : List Value} {x : DataW H × List MemPlace} (hf : DataW.trod enc Try.prog W 0 (fun _ => true) true fuel 36 cs = some x) :
    ∃ (y : TIn) (kv : Value), InOk y ∧ KeyAt W kv y.key ∧ y.key.length ≤ 9223372036854775807 ∧ cs = inL y kv := by
  have c27 : Try.prog.cellsOf 33 = 33 := by kernel_rfl
  have c22 : Try.prog.cellsOf 34 = 1 := by kernel_rfl
  have c25 : Try.prog.cellsOf 22 = 1 := by kernel_rfl
  have c54 : Try.prog.cellsOf 36 = 35 := by kernel_rfl
  obtain ⟨hlen, m, hel⟩ := struct_field in_under hf in_fields
  rw [c54] at hlen
  obtain ⟨y0, g0⟩ := hel 0 _ _ _ rfl
  obtain ⟨y1, g1⟩ := hel 1 _ _ _ rfl
  obtain ⟨y2, g2⟩ := hel 2 _ _ _ rfl
  rw [c27, List.drop_zero] at g0
  rw [c22] at g1
  rw [c25] at g2
  obtain ⟨bs, n, ⟨hb, hn⟩, hp⟩ := pt_cells g0
  obtain ⟨kv, key, hk, hka, hkl⟩ := key_cells g1
  obtain ⟨s, hs, hsq⟩ := num32_cells g2
  rw [List.take_of_length_le (by rw [List.length_drop]; omega)] at hsq
  refine ⟨⟨bs, n, key, s⟩, kv, ⟨hb, hn, hs⟩, hka, hkl, ?_⟩
  have e1 : cs.drop 33 = [kv] ++ [nV s] := by
    rw [← List.take_append_drop 1 (cs.drop 33), hk, List.drop_drop, hsq]
  show cs = ptL bs n ++ [kv, nV s]
  rw [← hp, show [kv, nV s] = cs.drop 33 from e1.symm, List.take_append_drop]
set_option maxRecDepth 100000 in
theorem out_cells {H : Type} {enc : TypeId × Value → H} {W : World} {fuel : Nat} {cs : List Value} {x : DataW H × List MemPlace} (hf : DataW.trod enc Try.prog W 0 (fun _ => true) true fuel 39 cs = some x) :
    ∃ y : TOut, OutOk y ∧ cs = outL y := by
  have c24 : Try.prog.cellsOf 31 = 32 := by kernel_rfl
  have c55 : Try.prog.cellsOf 37 = 1 := by kernel_rfl
  have c57 : Try.prog.cellsOf 39 = 33 := by kernel_rfl
  obtain ⟨hlen, m, hel⟩ := struct_field out_under hf out_fields
  rw [c57] at hlen
  obtain ⟨y0, g0⟩ := hel 0 _ _ _ rfl
  obtain ⟨y1, g1⟩ := hel 1 _ _ _ rfl
  rw [c55, List.drop_zero] at g0
  rw [c24] at g1
  obtain ⟨z, hz, _, hw⟩ := DataW.trod_int Try.underlying37 g0
  have hbd := bounds_u64 hw
  obtain ⟨bs, hb, hcs⟩ := hash_cells g1
  rw [List.take_of_length_le (by rw [List.length_drop]; omega)] at hcs
  refine ⟨⟨z.toNat, bs⟩, ⟨hb, by show z.toNat ≤ _; omega⟩, ?_⟩
  show cs = uV z.toNat :: bs.map bV
  rw [← hcs, uV, Int.toNat_of_nonneg (by omega), ← List.take_append_drop 1 cs, hz]
  rfl
/-- Many, each of which is somewhere: a list of them. -/
theorem list_of_each {α : Type} {p : Nat → α → Prop} : ∀ n, (∀ i, i < n → ∃ x, p i x) → ∃ l : List α, l.length = n ∧ ∀ i x, l[i]? = some x → p i x
  | 0, _ => ⟨[], rfl, fun i x h => by simp at h⟩
  | n + 1, h => by
    obtain ⟨l, hl, hp⟩ := list_of_each n (fun i hi => h i (by omega))
    obtain ⟨x, hx⟩ := h n (by omega)
    refine ⟨l ++ [x], by simp [hl], fun i y hy => ?_⟩
    by_cases hi : i < n
    · exact hp i y (by rwa [List.getElem?_append_left (by omega)] at hy)
    · have hin : i = n := by
        have := (List.getElem?_eq_some_iff.1 hy).1
        simp [hl] at this
        omega
      subst hin
      rw [List.getElem?_append_right (by omega), hl] at hy
      simp at hy
      rw [← hy]
      exact hx
theorem range_of_cells {w : World} {a : Addr} {n : Nat} {cs : List Value} (h : w.cells? 0 a n = some cs) (hn : 0 < n) : ∃ b o, a = ⟨b, o, none⟩ ∧ w.rangeAt b o cs := by
  obtain ⟨_, hcl, hat⟩ := World.cells?_some h
  obtain ⟨b, o, spot⟩ := a
  have h0 := hat 0 hn
  have hspot : spot = none := by
    have hs : (cs[0]?) = some (cs[0]'(by omega)) := List.getElem?_eq_getElem _
    rw [hs] at h0
    simpa [Addr.add] using World.cell?_spot h0
  subst hspot
  refine ⟨b, o, rfl, fun j v hj => ?_⟩
  have hjn : j < n := by have := (List.getElem?_eq_some_iff.1 hj).1; omega
  rw [← Addr.add_mid, hat j hjn]
  exact hj
theorem ins_cells {H : Type} {enc : TypeId × Value → H} {W : World} {fuel : Nat} {cs : List Value} {x : DataW H × List MemPlace} (hf : DataW.trod enc Try.prog W 0 (fun _ => true) true fuel 23 cs = some x) :
    ∃ (iv : Value) (l : List TIn), cs = [iv] ∧ InsAt W iv l ∧ InsOk l ∧ KeysLe l 9223372036854775807 ∧ l.length ≤ 9223372036854775807 := by
  have c54 : Try.prog.cellsOf 36 = 35 := by kernel_rfl
  rcases open_slice Try.underlying23 hf with ⟨hcs, _⟩ | ⟨a, len, cap, m, n, D, Pl, hcs, hb, hl, hm, hmm, hx, hi⟩
  · exact ⟨_, [], hcs, ⟨_, _, rfl, by simp, fun h => by simp at h⟩, fun y hy => by simp at hy, fun y hy => by simp at hy, by simp⟩
  · have hmc : m = cap := by rw [hmm]; simp
    rw [c54] at hi
    have each : ∀ i, i < len → ∃ y : TIn, ∃ b o, a.add (i * 35) = ⟨b, o, none⟩ ∧ InAt W b o y ∧ y.key.length ≤ 9223372036854775807 := fun i him => by
      obtain ⟨cs', hc, ht⟩ := hi i (by omega)
      obtain ⟨y, kv, h1, h2, h3, h4⟩ := in_cells ht
      obtain ⟨b, o, hab, hr⟩ := range_of_cells hc (by omega)
      exact ⟨y, b, o, hab, ⟨h1, kv, h2, by rw [← h4]; exact hr⟩, h3⟩
    obtain ⟨l, hll, hp⟩ := list_of_each len each
    have hmem : ∀ y ∈ l, ∃ b o, InAt W b o y ∧ y.key.length ≤ 9223372036854775807 := fun y hy => by
      obtain ⟨i, hi2⟩ := List.getElem?_of_mem hy
      obtain ⟨b, o, _, h1, h2⟩ := hp i y hi2
      exact ⟨b, o, h1, h2⟩
    refine ⟨_, l, hcs, ⟨_, _, by rw [hll], by omega, fun h0 => ?_⟩, fun y hy => ?_, fun y hy => ?_, by unfold maxLen at hm; omega⟩
    · obtain ⟨x0, hx0⟩ : ∃ x0, l[0]? = some x0 := ⟨_, List.getElem?_eq_getElem h0⟩
      obtain ⟨b, o, hab, _⟩ := hp 0 x0 hx0
      obtain ⟨ab, ao, asp⟩ := a
      have hsp : asp = none := by
        have := congrArg Addr.spot hab
        simpa [Addr.add] using this
      subst hsp
      refine ⟨ab, ao, rfl, fun i y hy => ?_⟩
      obtain ⟨b', o', hab', h1, _⟩ := hp i y hy
      rw [Addr.add_mid] at hab'
      cases hab'
      exact h1
    · obtain ⟨b, o, h1, _⟩ := hmem y hy
      exact h1.1
    · obtain ⟨b, o, _, h2⟩ := hmem y hy
      exact h2
theorem outs_cells {H : Type} {enc : TypeId × Value → H} {W : World} {fuel : Nat} {cs : List Value} {x : DataW H × List MemPlace} (hf : DataW.trod enc Try.prog W 0 (fun _ => true) true fuel 24 cs = some x) :
    ∃ (ov : Value) (l : List TOut), cs = [ov] ∧ OutsAt W ov l ∧ OutsOk l ∧ l.length ≤ 9223372036854775807 := by
  have c57 : Try.prog.cellsOf 39 = 33 := by kernel_rfl
  rcases open_slice Try.underlying24 hf with ⟨hcs, _⟩ | ⟨a, len, cap, m, n, D, Pl, hcs, hb, hl, hm, hmm, hx, hi⟩
  · exact ⟨_, [], hcs, ⟨_, _, rfl, by simp, fun h => by simp at h⟩, fun y hy => by simp at hy, by simp⟩
  · have hmc : m = cap := by rw [hmm]; simp
    rw [c57] at hi
    have each : ∀ i, i < len → ∃ y : TOut, ∃ b o, a.add (i * 33) = ⟨b, o, none⟩ ∧ OutAt W b o y := fun i him => by
      obtain ⟨cs', hc, ht⟩ := hi i (by omega)
      obtain ⟨y, h1, h4⟩ := out_cells ht
      obtain ⟨b, o, hab, hr⟩ := range_of_cells hc (by omega)
      exact ⟨y, b, o, hab, h1, by rw [← h4]; exact hr⟩
    obtain ⟨l, hll, hp⟩ := list_of_each len each
    refine ⟨_, l, hcs, ⟨_, _, by rw [hll], by omega, fun h0 => ?_⟩, fun y hy => ?_, by unfold maxLen at hm; omega⟩
    · obtain ⟨x0, hx0⟩ : ∃ x0, l[0]? = some x0 := ⟨_, List.getElem?_eq_getElem h0⟩
      obtain ⟨b, o, hab, _⟩ := hp 0 x0 hx0
      obtain ⟨ab, ao, asp⟩ := a
      have hsp : asp = none := by
        have := congrArg Addr.spot hab
        simpa [Addr.add] using this
      subst hsp
      refine ⟨ab, ao, rfl, fun i y hy => ?_⟩
      obtain ⟨b', o', hab', h1⟩ := hp i y hy
      rw [Addr.add_mid] at hab'
      cases hab'
      exact h1
    · obtain ⟨i, hi2⟩ := List.getElem?_of_mem hy
      obtain ⟨b, o, _, h1⟩ := hp i y hi2
      exact h1.1
/-- All that is known of a transaction that came in. -/
def TxCame (t : TTx) : Prop := TxOk t ∧ InsOk t.ins ∧ OutsOk t.outs ∧ KeysLe t.ins 9223372036854775807 ∧ t.ins.length ≤ 9223372036854775807 ∧ t.outs.length ≤ 9223372036854775807
set_option maxRecDepth 100000 in
/-- A transaction by value. -/
theorem tx_in {H : Type} {enc : TypeId × Value → H} {W : World} {base : Nat} {v : Value} {d : DataW H} {p : List MemPlace} (hok : Value.okWide Try.prog W .any base 26 v) (h : DataW.Trod enc Try.prog W 0 (fun _ => true) true 26 v d p) :
    ∃ t : TTx, TxAt W v t ∧ TxCame t := by
  have c25 : Try.prog.cellsOf 22 = 1 := by kernel_rfl
  have c23 : Try.prog.cellsOf 23 = 1 := by kernel_rfl
  have c24 : Try.prog.cellsOf 24 = 1 := by kernel_rfl
  have c26 : Try.prog.cellsOf 26 = 4 := by kernel_rfl
  simp only [Value.okWide, tx_under] at hok
  obtain ⟨cs, rfl, _, _⟩ := hok
  obtain ⟨fuel, hf⟩ := h
  have hcells : (Value.agg cs).cells.toList = cs.toList := rfl
  rw [hcells] at hf
  obtain ⟨hlen, m, hel⟩ := struct_field tx_under hf tx_fields
  rw [c26] at hlen
  obtain ⟨y0, g0⟩ := hel 0 _ _ _ rfl
  obtain ⟨y1, g1⟩ := hel 1 _ _ _ rfl
  obtain ⟨y2, g2⟩ := hel 2 _ _ _ rfl
  obtain ⟨y3, g3⟩ := hel 3 _ _ _ rfl
  rw [c25] at g0 g3
  rw [c23] at g1
  rw [c24] at g2
  obtain ⟨ver, h0, e0⟩ := num32_cells g0
  obtain ⟨iv, il, e1, h1, h1a, h1b, h1c⟩ := ins_cells g1
  obtain ⟨ov, ol, e2, h2, h2a, h2b⟩ := outs_cells g2
  obtain ⟨tm, h3, e3⟩ := num32_cells g3
  obtain ⟨l, hl⟩ : ∃ l, l = cs.toList := ⟨_, rfl⟩
  rw [← hl] at hlen e0 e1 e2 e3
  match l, hlen with
  | [a, b, c, e], _ =>
    simp at e0 e1 e2 e3
    subst e0 e1 e2 e3
    refine ⟨⟨ver, il, ol, tm⟩, ⟨⟨h0, h3⟩, _, _, ?_, h1, h2⟩, ⟨h0, h3⟩, h1a, h2a, h1b, h1c, h2b⟩
    congr 1
    apply Array.toList_inj.1
    rw [← hl]
    rfl
end Go.Proofs.Ytkabpbclmhmgfaa.Sha
