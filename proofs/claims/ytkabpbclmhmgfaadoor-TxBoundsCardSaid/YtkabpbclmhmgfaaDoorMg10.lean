/-
  Texts of this proof joined into one file: TxStore, TxTakeIn, TxTakeW0. What each holds, and under which conditions, its own first sentence tells.
-/
import Derived.Maps.AppendAt
import Derived.Test.YtkabpbclmhmgfaaDoorMg09
import Derived.Test.YtkabpbclmhmgfaaDoorMg08
/-
  A value is stored into a part of a block of one's own; a Reader that stands on low memory. No conditions beyond those that each states.
-/
namespace Go.Proofs.YtkabpbclmhmgfaaDoor.Sha
open Go Go.RowKit

section
variable {P : Program}
theorem setRow_grown {w : World} {g : Nat} (cs : Array Value) : w.grownBy (w.setRow g cs) (some g) := by
  refine ⟨rfl, rfl, rfl, by simp [World.setRow], fun k _ hk => ?_⟩
  simp only [World.setRow]
  rw [Array.getElem?_modify, if_neg (fun e => hk (by rw [e]))]
theorem run_store_part {w : World} (ty : TypeId) (g o : Nat) (A old C new : List Value) (T : TypeId) (v : Value) (hv : v.cells = new.toArray) (hA : A.length = o) (hlen : old.length = new.length)
    (hg : w.heap[g]? = some (.cells (A ++ old ++ C).toArray T (0, 0))) (hi : (P.info? ty).map (·.size) = some new.length) (h1 : ∀ u ∈ new, u.oneCell' = true) :
    (storeVar ty ⟨g, o, none⟩ v).run P w = .ok () (w.setRow g (A ++ new ++ C).toArray) := by
  have h := run_storeCells_at P g o T new 0 (A ++ old ++ C).toArray w hg (by simp; omega) h1
  have e : ((A ++ old ++ C).toArray.toList.take (o + 0) ++ new ++ (A ++ old ++ C).toArray.toList.drop (o + 0 + new.length)).toArray = (A ++ new ++ C).toArray := by
    congr 1
    subst hA
    simp only [Nat.add_zero]
    rw [List.append_assoc A old C, List.take_left, ← List.drop_drop, List.drop_left, ← hlen, List.drop_left]
  rw [e] at h
  cases hq : P.info? ty with
  | none => simp [hq] at hi
  | some i =>
    have hs : i.size = new.length := by simpa [hq] using hi
    simp [storeVar, sizeOf, typeInfo, hq, hv, hs]
    simpa using h
theorem wp_store_part {op : Oper} {a : Act} {w : World} {K : Act → World → Prop} {Q : Exit → Act → World → Prop} (ty : TypeId) (x y : Operand) (ho : op.op = .store ty x y)
    (g o : Nat) (A old C new : List Value) (T : TypeId) (v : Value) (hx : a.eval x = .pointer (some ⟨g, o, none⟩)) (hy : a.eval y = v) (hv : v.cells = new.toArray) (hA : A.length = o) (hlen : old.length = new.length)
    (hg : w.heap[g]? = some (.cells (A ++ old ++ C).toArray T (0, 0))) (hi : (P.info? ty).map (·.size) = some new.length) (h1 : ∀ u ∈ new, u.oneCell' = true)
    (h : ∀ w', w'.heap[g]? = some (.cells (A ++ new ++ C).toArray T (0, 0)) → w.grownBy w' (some g) → K (a.put op.dst undef) w') : op.wp P a w K Q := by
  unfold Oper.wp execOp
  simp only [ho, hx, hy, Instr.storeAt, Instr.sureAddr, Sem.run_bind, Sem.run_pure, Result.andThen_ok, run_store_part ty g o A old C new T v hv hA hlen hg hi h1]
  exact h _ (setRow_heap _ _ _ _ _ _ hg) (setRow_grown _)
theorem wpList_store_part {ops : Array Oper} {rest : List Oper} {op : Oper} {a : Act} {w : World} {Q : Exit → Act → World → Prop} (hgd : op.guard = none) (ty : TypeId) (x y : Operand) (ho : op.op = .store ty x y)
    (g o : Nat) (A old C new : List Value) (T : TypeId) (v : Value) (hx : a.eval x = .pointer (some ⟨g, o, none⟩)) (hy : a.eval y = v) (hv : v.cells = new.toArray) (hA : A.length = o) (hlen : old.length = new.length)
    (hg : w.heap[g]? = some (.cells (A ++ old ++ C).toArray T (0, 0))) (hi : (P.info? ty).map (·.size) = some new.length) (h1 : ∀ u ∈ new, u.oneCell' = true)
    (h : ∀ w', w'.heap[g]? = some (.cells (A ++ new ++ C).toArray T (0, 0)) → w.grownBy w' (some g) → wpList P ops Q rest (a.put op.dst undef) w') : wpList P ops Q (op :: rest) a w :=
  wpList_plain hgd fun _ hK => wp_store_part ty x y ho g o A old C new T v hx hy hv hA hlen hg hi h1 (fun w' a1 a2 => hK _ _ (h w' a1 a2))
end
theorem row_far {w w' : World} {g : Nat} {q : Option Nat} {o : Obj} (h : w.heap[g]? = some o) (hg : w.grownBy w' q) (hq : q ≠ some g) : w'.heap[g]? = some o := by
  rw [hg.block g (Array.getElem?_eq_some_iff.1 h).1 (fun e => hq e.symm)]
  exact h
theorem gr_low {w0 w w' : World} {r : Option Nat} {g : Nat} (h : w0.grownBy w r) (hg : w.grownBy w' (some g)) (hq : w0.heap.size ≤ g) : w0.grownBy w' r := grown_over h hg (.inr ⟨g, rfl, hq⟩)
theorem own_off {w : World} {base n k : Nat} {e : TypeId} {v : Value} {xs : List Value} {size : Nat} (h : w.ownsRow base e size v n xs) (hk : k < base) : Off v (some k) := fun sp m cap hv _ e => by
  have h1 := (h.lt sp.block (by rw [hv]; rfl)).1
  have := Option.some.inj e
  omega
/-- A Reader's bytes in memory that was there: a Reader of no bytes stands anywhere. -/
theorem rd_low {E : Nat → Addr} {m : Nat} {w : World} {r : Nat} {bs : List UInt8} {c : Nat} (h : RdI E m w r bs c) (hE : ErR w E r) : ∃ m', m' < w.heap.size ∧ RdI E m' w r bs c := by
  by_cases hb : bs = []
  · obtain ⟨v, h1, h2, h3, h4⟩ := h
    refine ⟨7, World.block_lt_of_cell? w _ hE.1.1, v, h1, h2, fun sp n cap hv hn => ?_, hE.2.1⟩
    rw [hv] at h2
    have := h2.le.1
    rw [hb] at this
    simp at this
    omega
  · exact ⟨m, h.m_lt hb, h⟩
end Go.Proofs.YtkabpbclmhmgfaaDoor.Sha

/-
  Package tx takes an input, and an output, from a Reader. Nothing that was there turns but the Reader. Conditions: the Reader stands as it should; the errors are there.
-/
namespace Go.Proofs.YtkabpbclmhmgfaaDoor.Sha
open Go Go.RowKit

/-- What is taken of an input. -/
def InPost (E : Nat → Addr) (m : Nat) (x : TIn) (b : List UInt8) (d r : Nat) (w : World) (e : Ending) (w' : World) : Prop :=
  ∃ sx cx, e = .returned (.agg (inL x (.slice sx x.key.length cx)).toArray) ∧ KeyAt w' (.slice sx x.key.length cx) x.key ∧ (∀ k, k < w.heap.size → Off (.slice sx x.key.length cx) (some k)) ∧ RdI E m w' r b d ∧ w.grownBy w' (some r)
theorem leP_of {k : Nat} {bs x b : List UInt8} {c d : Nat} (h : takeL k bs c = (x, b, d)) : leP k bs c = (leN x, b, d) := by simp only [leP, mapP, h]
theorem one_mem {v : Value} (h : v.oneCell' = true) : ∀ u ∈ [v], u.oneCell' = true := fun u hu => by rw [List.mem_singleton.1 hu]; exact h
set_option maxHeartbeats 1000000 in
set_option maxRecDepth 100000 in
theorem takeIn_is (E : Nat → Addr) (m : Nat) (bs : List UInt8) (c r : Nat) (w : World) (hE : ErR w E r) (hr : RdI E m w r bs c) (hm : m < w.heap.size) (hl : bs.length ≤ 70368744177664) (x : TIn) (b : List UInt8) (d : Nat) (hx : inP bs c = (x, b, d)) :
    Calls Tryd.prog 64 #[.pointer (some ⟨r, 0, none⟩)] w (InPost E m x b d r w) := by
  obtain ⟨x1, b1, d1, h1⟩ : ∃ x b d, takeL 32 bs c = (x, b, d) := ⟨_, _, _, rfl⟩
  obtain ⟨x2, b2, d2, h2⟩ : ∃ x b d, takeL 4 b1 d1 = (x, b, d) := ⟨_, _, _, rfl⟩
  obtain ⟨k, b3, d3, h3⟩ : ∃ x b d, numL 80 b2 d2 = (x, b, d) := ⟨_, _, _, rfl⟩
  obtain ⟨x4, b4, d4, h4⟩ : ∃ x b d, takeL k b3 d3 = (x, b, d) := ⟨_, _, _, rfl⟩
  obtain ⟨x5, b5, d5, h5⟩ : ∃ x b d, takeL 4 b4 d4 = (x, b, d) := ⟨_, _, _, rfl⟩
  rw [inP_laid bs x1 b1 b2 b3 x4 b4 b5 c d1 d2 d3 d4 d5 (leN x2) k (leN x5) h1 (leP_of h2) h3 h4 (leP_of h5)] at hx
  obtain ⟨rfl, rfl, rfl⟩ : (⟨padH x1, leN x2, x4, leN x5⟩ : TIn) = x ∧ b5 = b ∧ d5 = d := by simpa using hx
  have hk : k ≤ 80 := by have := numL_most 80 b2 d2; rw [h3] at this; exact this
  have hp : (padH x1).length = 32 := padH_length (by have := takeL_le 32 bs c; rw [h1] at this; exact this)
  have hb3 : b3.length ≤ 70368744177664 := by
    have q1 := less_take 32 bs c
    have q2 := less_take 4 b1 d1
    have q3 := less_num 80 b2 d2
    rw [h1] at q1
    rw [h2] at q2
    rw [h3] at q3
    exact Nat.le_trans q3 (Nat.le_trans q2 (Nat.le_trans q1 hl))
  have num2 : Hid (numL 80 b2 d2 = (k, b3, d3)) := h3
  have HE := Lib.hid hE
  have HR := Lib.hid hr
  have HM := Lib.hid hm
  have HK := Lib.hid hk
  have HP := Lib.hid hp
  have HB3 := Lib.hid hb3
  have T1 := Lib.hid h1
  have T2 := Lib.hid h2
  have T4 := Lib.hid h4
  have T5 := Lib.hid h5
  obtain ⟨P, hP⟩ : ∃ P, P = (padH x1).map bV := ⟨_, rfl⟩
  have HPP := Lib.hid hP
  have HPL : Hid (P.length = 32) := by show _ = _; rw [hP, List.length_map]; exact hp
  have HPO : Hid (∀ u ∈ P, u.oneCell' = true) := by rw [hP]; exact bV_one' _
  obtain ⟨N2, hN2⟩ : ∃ N, N = leN x2 := ⟨_, rfl⟩
  obtain ⟨N5, hN5⟩ : ∃ N, N = leN x5 := ⟨_, rfl⟩
  have HN2 := Lib.hid hN2
  have HN5 := Lib.hid hN5
  clear hE hr hm h1 h2 h3 h4 h5 hx hk hp hb3 hl hP hN2 hN5
  go_enter Tryd.func64, Tryd.ntmps64
  go_upto_region 1 with fail
  have hg0 : w.grownBy (w.alloc (.cells (List.replicate 32 (bV 0) ++ [nV 0, .slice none 0 0, nV 0]).toArray 54)) (some r) := World.grownBy_alloc w _ _
  have hf0 := heap_alloc_new w (.cells (List.replicate 32 (bV 0) ++ [nV 0, .slice none 0 0, nV 0]).toArray 54)
  have hr0 := HR.out.below ((Below.refl w.heap.size w).alloc (Nat.le_refl _) (.cells (List.replicate 32 (bV 0) ++ [nV 0, .slice none 0 0, nV 0]).toArray 54))
  generalize hw0 : World.alloc _ _ = w0
  have e0 : w.alloc (.cells (List.replicate 32 (bV 0) ++ [nV 0, .slice none 0 0, nV 0]).toArray 54) = w0 := hw0
  rw [e0] at hg0 hf0 hr0
  have HG0 := Lib.hid hg0
  have HF0 := Lib.hid hf0
  have HR0 := Lib.hid hr0
  have HNE : Hid (some r ≠ some w.heap.size) := fun e => by have := HR.out.lt; have := Option.some.inj e; omega
  have HNR : Hid (w.heap.size ≠ r) := by show _ ≠ _; have := HR.out.lt; omega
  have HNM : Hid (m ≠ w.heap.size) := by show _ ≠ _; have := HM.out; omega
  clear hg0 hf0 hr0 hw0 e0
  go_wp2_with fail
  refine (hash_is E m bs x1 b1 c d1 r w0 (HE.out.grown HG0.out) HR0.out T1.out).mono ?_
  rintro e w1 ⟨rfl, i1, g1⟩
  have HR1 := Lib.hid i1
  have HG1 := Lib.hid (grownBy_trans HG0.out g1)
  have HF1 := Lib.hid (row_far HF0.out g1 HNE.out)
  clear i1 g1
  rw [← HPP.out]
  go_upto_region 2 with ((with_reducible show wpList _ _ _ _ _ _); refine wpList_store_part rfl 35 (.tmp 6) (.tmp 4) rfl w.heap.size 0 [] (List.replicate 32 (bV 0)) [nV 0, .slice none 0 0, nV 0] P 54 (.agg P.toArray) rfl rfl rfl rfl (by rw [HPL.out, List.length_replicate]) (by simpa using HF1.out) (by rw [HPL.out]; kernel_rfl) HPO.out ?_; intro w2 q1 q2; have HS := Lib.hid q1; have HQ := Lib.hid q2; clear q1 q2; go_frame)
  have HR2 := Lib.hid (HR1.out.grown HQ.out HNR.out (fun _ => HNM.out))
  have HG2 := Lib.hid (gr_low HG1.out HQ.out (Nat.le_refl _))
  have HF2 : Hid (w2.heap[w.heap.size]? = some (.cells (P ++ [nV 0, .slice none 0 0, nV 0]).toArray 54 (0, 0))) := by show _ = _; simpa using HS.out
  clear HS HQ HR1 HG1 HF1 HR0 HG0 HF0
  go_wp2_with fail
  refine (four_is E m b1 x2 b2 d1 d2 r w2 (HE.out.grown HG2.out) HR2.out T2.out).mono ?_
  rintro e w3 ⟨rfl, i1, g1⟩
  have HR3 := Lib.hid i1
  have HG3 := Lib.hid (grownBy_trans HG2.out g1)
  have HF3 := Lib.hid (row_far HF2.out g1 HNE.out)
  clear i1 g1
  rw [← HN2.out]
  go_upto_region 3 with ((with_reducible show wpList _ _ _ _ _ _); refine wpList_store_part rfl 22 (.tmp 10) (.tmp 8) rfl w.heap.size 32 P [nV 0] [.slice none 0 0, nV 0] [nV N2] 54 (nV N2) rfl rfl rfl HPL.out rfl (by simpa using HF3.out) (by kernel_rfl) (one_mem rfl) ?_; intro w4 q1 q2; have HS := Lib.hid q1; have HQ := Lib.hid q2; clear q1 q2; go_frame)
  have HR4 := Lib.hid (HR3.out.grown HQ.out HNR.out (fun _ => HNM.out))
  have HG4 := Lib.hid (gr_low HG3.out HQ.out (Nat.le_refl _))
  have HF4 : Hid (w4.heap[w.heap.size]? = some (.cells (P ++ [nV N2, .slice none 0 0, nV 0]).toArray 54 (0, 0))) := by show _ = _; simpa using HS.out
  clear HS HQ HR3 HG3 HF3 HR2 HG2 HF2
  have NA : Hid (Calls Tryd.prog 63 #[.pointer (some ⟨r, 0, none⟩), .int .u64 80] w4 (NumPost E m k b3 d3 r w4)) := by
    have := num_any E m 80 b2 d2 r w4 (HE.out.grown HG4.out) HR4.out
    rw [num2.out] at this
    exact this
  have uk : (0 : Int) ≤ (k : Int) ∧ (k : Int) ≤ 80 := by have := HK.out; omega
  have wk : IntKind.i64.wrap (k : Int) = (k : Int) := i64_stays (by omega)
  go_wp2_with fail
  refine NA.out.mono ?_
  rintro e w5 ⟨rfl, i1, g1⟩
  have HR5 := Lib.hid i1
  have HG5 := Lib.hid (grownBy_trans HG4.out g1)
  have HF5 := Lib.hid (row_far HF4.out g1 HNE.out)
  clear i1 g1 NA
  go_wp2_with fail
  refine (bytes_is E m (k : Int) k (by simp) b3 x4 b4 d3 d4 r w5 (HE.out.grown HG5.out) HR5.out T4.out (by omega) HB3.out).mono ?_
  rintro e w6 ⟨v6, rfl, o6, i1, g1⟩
  obtain ⟨sx, cx, rfl⟩ := (src_own o6).shape
  have HO6 := Lib.hid o6
  have HR6 := Lib.hid i1
  have HS6 : Hid (w.heap.size < w5.heap.size) := (Array.getElem?_eq_some_iff.1 HF5.out).1
  have HG6 := Lib.hid (grownBy_trans HG5.out g1)
  have HF6 := Lib.hid (row_far HF5.out g1 HNE.out)
  clear i1 g1 o6 uk wk
  obtain ⟨kl, hkl⟩ : ∃ kl, kl = x4.length := ⟨_, rfl⟩
  have KL := Lib.hid hkl
  rw [← hkl] at HO6 ⊢
  clear hkl
  go_upto_region 4 with ((with_reducible show wpList _ _ _ _ _ _); refine wpList_store_part rfl 29 (.tmp 16) (.tmp 15) rfl w.heap.size 33 (P ++ [nV N2]) [.slice none 0 0] [nV 0] [.slice sx kl cx] 54 (.slice sx kl cx) rfl rfl rfl (by simp [HPL.out]) rfl (by simpa using HF6.out) (by kernel_rfl) (one_mem rfl) ?_; intro w7 q1 q2; have HS := Lib.hid q1; have HQ := Lib.hid q2; clear q1 q2; go_frame)
  have HR7 := Lib.hid (HR6.out.grown HQ.out HNR.out (fun _ => HNM.out))
  have HG7 := Lib.hid (gr_low HG6.out HQ.out (Nat.le_refl _))
  have HF7 : Hid (w7.heap[w.heap.size]? = some (.cells (P ++ [nV N2, .slice sx kl cx, nV 0]).toArray 54 (0, 0))) := by show _ = _; simpa using HS.out
  have HOF : Hid (∀ q, q < w5.heap.size → Off (.slice sx kl cx) (some q)) := fun q hq => own_off HO6.out hq
  have HK6 : KeyAt w6 (.slice sx kl cx) x4 := ⟨src_own HO6.out, sx, cx, by rw [KL.out]⟩
  have HK7 := Lib.hid (HK6.off (HOF.out _ HS6.out) HQ.out)
  clear HK6
  clear HS HQ HR6 HG6 HF6 HR5 HG5 HF5 HR4 HG4 HF4 HO6
  go_wp2_with fail
  refine (four_is E m b4 x5 b5 d4 d5 r w7 (HE.out.grown HG7.out) HR7.out T5.out).mono ?_
  rintro e w8 ⟨rfl, i1, g1⟩
  have HR8 := Lib.hid i1
  have HG8 := Lib.hid (grownBy_trans HG7.out g1)
  have HF8 := Lib.hid (row_far HF7.out g1 HNE.out)
  have HK8 := Lib.hid (HK7.out.off (HOF.out r (Nat.lt_trans HR.out.lt HS6.out)) g1)
  clear i1 g1
  rw [← HN5.out]
  go_upto_region 5 with ((with_reducible show wpList _ _ _ _ _ _); refine wpList_store_part rfl 22 (.tmp 19) (.tmp 18) rfl w.heap.size 34 (P ++ [nV N2, .slice sx kl cx]) [nV 0] [] [nV N5] 54 (nV N5) rfl rfl rfl (by simp [HPL.out]) rfl (by simpa using HF8.out) (by kernel_rfl) (one_mem rfl) ?_; intro w9 q1 q2; have HS := Lib.hid q1; have HQ := Lib.hid q2; clear q1 q2; go_frame)
  have HR9 := Lib.hid (HR8.out.grown HQ.out HNR.out (fun _ => HNM.out))
  have HG9 := Lib.hid (gr_low HG8.out HQ.out (Nat.le_refl _))
  have HF9 : Hid (w9.heap[w.heap.size]? = some (.cells (P ++ [nV N2, .slice sx kl cx, nV N5]).toArray 54 (0, 0))) := by show _ = _; simpa using HS.out
  have HK9 := Lib.hid (HK8.out.off (HOF.out _ HS6.out) HQ.out)
  clear HS HQ HR8 HG8 HF8 HR7 HG7 HF7 HK8 HK7
  obtain ⟨R, hR⟩ : ∃ R, R = (P ++ [nV N2, .slice sx kl cx, nV N5]).toArray := ⟨_, rfl⟩
  rw [← hR] at HF9
  have LR : Hid (R.size = 35) := by show _ = _; rw [hR]; simp [HPL.out]
  have OR : Hid (R.all (·.oneCell') = true) := by
    show _ = _
    rw [hR]
    refine all_oneCell_toArray (fun u hu => ?_)
    rcases List.mem_append.1 hu with hu | hu
    · exact HPO.out u hu
    · simp only [List.mem_cons, List.not_mem_nil, or_false] at hu
      rcases hu with rfl | rfl | rfl <;> rfl
  have HRR := Lib.hid hR
  clear hR
  go_wp2_with ((with_reducible show wpList _ _ _ _ _ _); first | (refine wpList_load_row rfl 54 (.tmp 2) rfl w.heap.size rfl 54 R (0, 0) _ HF9.out Tryd.underlying54 rfl (by rw [LR.out]; kernel_rfl) ?_; go_frame) | (refine wpList_store_row rfl 54 (.tmp 2) (.tmp 20) rfl w.heap.size R rfl rfl 54 _ HF9.out (by rw [LR.out]; kernel_rfl) (by rw [LR.out]) OR.out ?_; go_frame))
  refine bodyPost_ret (results_cell_row rfl _ _ w.heap.size 54 R (0, 0) _ rfl (setRow_heap _ _ _ _ _ _ HF9.out) Tryd.underlying54 rfl (by rw [LR.out]; kernel_rfl)) rfl ?_
  have HQ : w9.grownBy (w9.setRow w.heap.size R) (some w.heap.size) := setRow_grown _
  have hk := KL.out
  refine ⟨sx, cx, ?_, ?_, ?_, HR9.out.grown HQ HNR.out (fun _ => HNM.out), gr_low HG9.out HQ (Nat.le_refl _)⟩
  · rw [HRR.out, HPP.out, HN2.out, HN5.out, hk]
    simp [inL, ptL]
  · rw [← hk]
    exact HK9.out.off (HOF.out _ HS6.out) HQ
  · intro q hq
    rw [← hk]
    exact HOF.out q (Nat.lt_trans hq HS6.out)
def OutPost (E : Nat → Addr) (m : Nat) (y : TOut) (b : List UInt8) (d r : Nat) (w : World) (e : Ending) (w' : World) : Prop :=
  e = .returned (.agg (outL y).toArray) ∧ RdI E m w' r b d ∧ w.grownBy w' (some r)
set_option maxHeartbeats 1000000 in
set_option maxRecDepth 100000 in
theorem takeOut_is (E : Nat → Addr) (m : Nat) (bs : List UInt8) (c r : Nat) (w : World) (hE : ErR w E r) (hr : RdI E m w r bs c) (hm : m < w.heap.size) (y : TOut) (b : List UInt8) (d : Nat) (hx : outP bs c = (y, b, d)) :
    Calls Tryd.prog 65 #[.pointer (some ⟨r, 0, none⟩)] w (OutPost E m y b d r w) := by
  obtain ⟨x1, b1, d1, h1⟩ : ∃ x b d, takeL 8 bs c = (x, b, d) := ⟨_, _, _, rfl⟩
  obtain ⟨x2, b2, d2, h2⟩ : ∃ x b d, takeL 32 b1 d1 = (x, b, d) := ⟨_, _, _, rfl⟩
  rw [outP_laid bs x2 b1 b2 c d1 d2 (leN x1) (leP_of h1) h2] at hx
  obtain ⟨rfl, rfl, rfl⟩ : (⟨leN x1, padH x2⟩ : TOut) = y ∧ b2 = b ∧ d2 = d := by simpa using hx
  have hp : (padH x2).length = 32 := padH_length (by have := takeL_le 32 b1 d1; rw [h2] at this; exact this)
  have HE := Lib.hid hE
  have HR := Lib.hid hr
  have HM := Lib.hid hm
  have T1 := Lib.hid h1
  have T2 := Lib.hid h2
  obtain ⟨P, hP⟩ : ∃ P, P = (padH x2).map bV := ⟨_, rfl⟩
  have HPP := Lib.hid hP
  have HPL : Hid (P.length = 32) := by show _ = _; rw [hP, List.length_map]; exact hp
  have HPO : Hid (∀ u ∈ P, u.oneCell' = true) := by rw [hP]; exact bV_one' _
  obtain ⟨N1, hN1⟩ : ∃ N, N = leN x1 := ⟨_, rfl⟩
  have HN1 := Lib.hid hN1
  clear hE hr hm h1 h2 hx hp hP hN1
  go_enter Tryd.func65, Tryd.ntmps65
  go_upto_region 1 with fail
  have hg0 : w.grownBy (w.alloc (.cells (uV 0 :: List.replicate 32 (bV 0)).toArray 57)) (some r) := World.grownBy_alloc w _ _
  have hf0 := heap_alloc_new w (.cells (uV 0 :: List.replicate 32 (bV 0)).toArray 57)
  have hr0 := HR.out.below ((Below.refl w.heap.size w).alloc (Nat.le_refl _) (.cells (uV 0 :: List.replicate 32 (bV 0)).toArray 57))
  generalize hw0 : World.alloc _ _ = w0
  have e0 : w.alloc (.cells (uV 0 :: List.replicate 32 (bV 0)).toArray 57) = w0 := hw0
  rw [e0] at hg0 hf0 hr0
  have HG0 := Lib.hid hg0
  have HF0 := Lib.hid hf0
  have HR0 := Lib.hid hr0
  have HNE : Hid (some r ≠ some w.heap.size) := fun e => by have := HR.out.lt; have := Option.some.inj e; omega
  have HNR : Hid (w.heap.size ≠ r) := by show _ ≠ _; have := HR.out.lt; omega
  have HNM : Hid (m ≠ w.heap.size) := by show _ ≠ _; have := HM.out; omega
  clear hg0 hf0 hr0 hw0 e0
  go_wp2_with fail
  refine (eight_is E m bs x1 b1 c d1 r w0 (HE.out.grown HG0.out) HR0.out T1.out).mono ?_
  rintro e w1 ⟨rfl, i1, g1⟩
  have HR1 := Lib.hid i1
  have HG1 := Lib.hid (grownBy_trans HG0.out g1)
  have HF1 := Lib.hid (row_far HF0.out g1 HNE.out)
  clear i1 g1
  rw [← HN1.out]
  go_upto_region 2 with ((with_reducible show wpList _ _ _ _ _ _); refine wpList_store_part rfl 55 (.tmp 5) (.tmp 4) rfl w.heap.size 0 [] [uV 0] (List.replicate 32 (bV 0)) [uV N1] 57 (uV N1) rfl rfl rfl rfl rfl (by simpa using HF1.out) (by kernel_rfl) (one_mem rfl) ?_; intro w2 q1 q2; have HS := Lib.hid q1; have HQ := Lib.hid q2; clear q1 q2; go_frame)
  have HR2 := Lib.hid (HR1.out.grown HQ.out HNR.out (fun _ => HNM.out))
  have HG2 := Lib.hid (gr_low HG1.out HQ.out (Nat.le_refl _))
  have HF2 : Hid (w2.heap[w.heap.size]? = some (.cells ([uV N1] ++ List.replicate 32 (bV 0)).toArray 57 (0, 0))) := by show _ = _; simpa using HS.out
  clear HS HQ HR1 HG1 HF1 HR0 HG0 HF0
  go_wp2_with fail
  refine (hash_is E m b1 x2 b2 d1 d2 r w2 (HE.out.grown HG2.out) HR2.out T2.out).mono ?_
  rintro e w3 ⟨rfl, i1, g1⟩
  have HR3 := Lib.hid i1
  have HG3 := Lib.hid (grownBy_trans HG2.out g1)
  have HF3 := Lib.hid (row_far HF2.out g1 HNE.out)
  clear i1 g1
  rw [← HPP.out]
  go_upto_region 3 with ((with_reducible show wpList _ _ _ _ _ _); refine wpList_store_part rfl 35 (.tmp 8) (.tmp 7) rfl w.heap.size 1 [uV N1] (List.replicate 32 (bV 0)) [] P 57 (.agg P.toArray) rfl rfl rfl rfl (by rw [HPL.out, List.length_replicate]) (by simpa using HF3.out) (by rw [HPL.out]; kernel_rfl) HPO.out ?_; intro w4 q1 q2; have HS := Lib.hid q1; have HQ := Lib.hid q2; clear q1 q2; go_frame)
  have HR4 := Lib.hid (HR3.out.grown HQ.out HNR.out (fun _ => HNM.out))
  have HG4 := Lib.hid (gr_low HG3.out HQ.out (Nat.le_refl _))
  obtain ⟨R, hR⟩ : ∃ R, R = (uV N1 :: P).toArray := ⟨_, rfl⟩
  have HF4 : Hid (w4.heap[w.heap.size]? = some (.cells R 57 (0, 0))) := by show _ = _; rw [hR]; simpa using HS.out
  have LR : Hid (R.size = 33) := by show _ = _; rw [hR]; simp [HPL.out]
  have OR : Hid (R.all (·.oneCell') = true) := by
    show _ = _
    rw [hR]
    refine all_oneCell_toArray (fun u hu => ?_)
    rcases List.mem_cons.1 hu with rfl | hu
    · rfl
    · exact HPO.out u hu
  have HRR := Lib.hid hR
  clear hR HS HQ HR3 HG3 HF3 HR2 HG2 HF2
  go_wp2_with ((with_reducible show wpList _ _ _ _ _ _); first | (refine wpList_load_row rfl 57 (.tmp 2) rfl w.heap.size rfl 57 R (0, 0) _ HF4.out Tryd.underlying57 rfl (by rw [LR.out]; kernel_rfl) ?_; go_frame) | (refine wpList_store_row rfl 57 (.tmp 2) (.tmp 9) rfl w.heap.size R rfl rfl 57 _ HF4.out (by rw [LR.out]; kernel_rfl) (by rw [LR.out]) OR.out ?_; go_frame))
  refine bodyPost_ret (results_cell_row rfl _ _ w.heap.size 57 R (0, 0) _ rfl (setRow_heap _ _ _ _ _ _ HF4.out) Tryd.underlying57 rfl (by rw [LR.out]; kernel_rfl)) rfl ?_
  have HQ : w4.grownBy (w4.setRow w.heap.size R) (some w.heap.size) := setRow_grown _
  refine ⟨?_, HR4.out.grown HQ HNR.out (fun _ => HNM.out), gr_low HG4.out HQ (Nat.le_refl _)⟩
  rw [HRR.out, HPP.out, HN1.out]
  rfl
end Go.Proofs.YtkabpbclmhmgfaaDoor.Sha

/-
  Loads and appends of structures where a region draws its order; rows that stay where others grow. No conditions beyond those that each states.
-/
namespace Go.Proofs.YtkabpbclmhmgfaaDoor.Sha
open Go Go.RowKit

section
variable {P : Program}
theorem wp_load_cell {op : Oper} {a : Act} {w : World} {K : Act → World → Prop} {Q : Exit → Act → World → Prop} (ty : TypeId) (x : Operand) (ho : op.op = .load ty x) (b off : Nat) (hx : a.eval x = .pointer (some ⟨b, off, none⟩)) (v : Value) (d : TypeDesc)
    (hc : w.cell? ⟨b, off, none⟩ = some v) (hu : P.underlying ty = some d) (hd : d.isRow = false) (h : K (a.put op.dst v) w) : op.wp P a w K Q := by
  have hagg : (isAgg ty).run P w = .ok false w := by
    unfold isAgg
    rw [Sem.run_bind, run_underlying hu w]
    cases d <;> simp_all
  unfold Oper.wp execOp
  simp [ho, hx, Instr.loadAt, Instr.sureAddr, Sem.run_bind, loadVar, hagg, hc]
  exact h
theorem wp_append_row (w : World) {o : Oper} {a : Act} {K : Act → World → Prop} {Q : Exit → Act → World → Prop} (s x : Operand) (t : TypeId)
    (ho : o.op = Op.call { callee := Callee.builtin Builtin.append, args := #[s, x], argTypes := #[t, t] })
    (base : Nat) (e : TypeId) (i : TypeInfo) (z : Value) (size bytes : Nat) (ht : P.underlying t = some (.slice e)) (hi : P.info? e = some i) (hz : i.zero = some z)
    (hsize : i.size = size) (hby : i.bytes = bytes) (hzs : z.cells.size = size) (hsz : 0 < size)
    (v : Value) (n : Nat) (xs : List Value) (hs : a.eval s = v) (hown : w.ownsRow base e size v n xs)
    (ad : Addr) (m c : Nat) (news : List Value) (hx : a.eval x = .slice (some ad) m c) (hl : news.length = m * size) (hnews : ∀ j u, news[j]? = some u → w.cell? (ad.add j) = some u) (h1 : ∀ u ∈ news, u.oneCell' = true)
    (h63 : n + m ≤ maxLen) (hbytes : (n + m) * bytes ≤ 140737488355328) (hbase : base ≤ w.heap.size)
    (h : ∀ v' w', w'.ownsRow base e size v' (n + m) (xs ++ news) → w.grownBy w' v.ownBlock → (v'.ownBlock = v.ownBlock ∨ v'.ownBlock = some w.heap.size) → K (a.put o.dst v') w') : o.wp P a w K Q := by
  obtain ⟨v', w', hr, h2, h3, _, h5⟩ := run_append_own_at (P := P) w base t o.type e i z size bytes ht hi hz hsize hby hzs hsz v n xs hown ad m c news hl hnews h1 h63 hbytes hbase
  unfold Oper.wp execOp
  simp only [ho, resolve, invoke, builtin, Sem.run_bind, Sem.run_pure, Result.andThen_ok, List.map_toArray, List.map_cons, List.map_nil, hs, hx, hr]
  exact h v' w' h2 h3 h5
end
theorem own_one {w : World} {base n size : Nat} {e : TypeId} {v : Value} {xs : List Value} (h : w.ownsRow base e size v n xs) : v.oneCell' = true := by
  rcases h.2 with ⟨rfl, _⟩ | ⟨g, cap, cur, rfl, _⟩ <;> rfl
theorem cells_one {v : Value} (h : v.oneCell' = true) : v.cells = [v].toArray := by cases v <;> first | rfl | cases h
theorem in_mem_one (x : TIn) (kv : Value) (hk : kv.oneCell' = true) : ∀ u ∈ inL x kv, u.oneCell' = true := fun u hu => by
  have := in_one x kv hk
  rw [Array.all_eq_true_iff_forall_mem] at this
  exact this u (by simpa using hu)
theorem out_mem_one (y : TOut) : ∀ u ∈ outL y, u.oneCell' = true := fun u hu => by
  have := out_one y
  rw [Array.all_eq_true_iff_forall_mem] at this
  exact this u (by simpa using hu)
theorem InsOwn.grow {base : Nat} {w w' : World} {v : Value} {l : List TIn} {ks : List Value} {q : Option Nat} (h : InsOwn base w v l ks) (hg : w.grownBy w' q) (hq : ∀ j, q = some j → v.ownBlock ≠ some j ∧ ∀ (i : Nat) kv, ks[i]? = some kv → Off kv (some j)) : InsOwn base w' v l ks := by
  cases q with
  | none => exact h.keep (below_made hg)
  | some j =>
    obtain ⟨a, b⟩ := hq j rfl
    exact ⟨h.1, h.2.1.kept hg (.inr a), h.2.2.1, fun i x kv hx hk => ⟨(h.2.2.2 i x kv hx hk).1.off (b i kv hk) hg, (h.2.2.2 i x kv hx hk).2⟩⟩
/-- All of a row's memory lies below. -/
def InsLow (B : Nat) (v : Value) (ks : List Value) : Prop := ∀ j, B ≤ j → v.ownBlock ≠ some j ∧ ∀ (i : Nat) kv, ks[i]? = some kv → Off kv (some j)
theorem InsOwn.low {base : Nat} {w : World} {v : Value} {l : List TIn} {ks : List Value} (h : InsOwn base w v l ks) : InsLow w.heap.size v ks := fun j hj => by
  refine ⟨fun e => ?_, fun i kv hk => ?_⟩
  · have := (h.2.1.lt j e).2
    omega
  · obtain ⟨x, hx⟩ : ∃ x, l[i]? = some x := ⟨_, List.getElem?_eq_getElem (by have := (List.getElem?_eq_some_iff.1 hk).1; have := h.1; omega)⟩
    exact (h.2.2.2 i x kv hx hk).1.fresh hj
theorem txS_laid (bs x1 b1 b2 b3 b4 b5 x6 b6 : List UInt8) (c d1 d2 d3 d4 d5 d6 n1 n2 : Nat) (l1 : List TIn) (l2 : List TOut) (h1 : takeL 4 bs c = (x1, b1, d1)) (h2 : numL 50 b1 d1 = (n1, b2, d2)) (h3 : manyS inP n1 b2 d2 = (l1, b3, d3))
    (h4 : numL 50 b3 d3 = (n2, b4, d4)) (h5 : manyS outP n2 b4 d4 = (l2, b5, d5)) (h6 : takeL 4 b5 d5 = (x6, b6, d6)) : txS bs c = (⟨leN x1, l1, l2, leN x6⟩, b6, d6) := by
  simp only [txS, thenP, mapP, leP_of h1, h2, h3, h4, h5, leP_of h6]
theorem gr_own {w0 w w' : World} {r q : Option Nat} {B : Nat} (h : w0.grownBy w r) (hg : w.grownBy w' q) (hq : ∀ k, q = some k → B ≤ k) (hB : w0.heap.size ≤ B) : w0.grownBy w' r :=
  ⟨hg.os.trans h.os, hg.tape.trans h.tape, hg.output.trans h.output, Nat.le_trans h.size hg.size, fun k hk hne => by
    rw [hg.block k (Nat.lt_of_lt_of_le hk h.size) (fun e => by have := hq k e.symm; omega)]
    exact h.block k hk hne⟩
theorem row_own {w w' : World} {g : Nat} {o : Obj} {q : Option Nat} {B : Nat} (h : w.heap[g]? = some o) (hg : w.grownBy w' q) (hq : ∀ k, q = some k → B ≤ k) (hB : g < B) : w'.heap[g]? = some o :=
  row_far h hg (fun e => by have := hq g e; omega)
theorem rd_own {E : Nat → Addr} {m : Nat} {w w' : World} {r : Nat} {bs : List UInt8} {c : Nat} {q : Option Nat} {B : Nat} (h : RdI E m w r bs c) (hg : w.grownBy w' q) (hq : ∀ k, q = some k → B ≤ k) (hr : r < B) (hm : m < B) : RdI E m w' r bs c := by
  cases q with
  | none => exact h.below (below_made hg)
  | some k =>
    have := hq k rfl
    exact h.grown hg (by omega) (fun _ => by omega)
end Go.Proofs.YtkabpbclmhmgfaaDoor.Sha
