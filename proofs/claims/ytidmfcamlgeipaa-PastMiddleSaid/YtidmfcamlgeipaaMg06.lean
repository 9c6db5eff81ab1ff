/-
  Texts of this proof joined into one file: HeldEnd, PsMedian, PsFirst, RefMedian, PsMidWalk, PsLastWalk. What each holds, and under which conditions, its own first sentence tells.
-/
import Derived.Lib.OwnBridge
import Derived.Test.YtidmfcamlgeipaaMg02
import Derived.Test.YtidmfcamlgeipaaMg05
import Derived.Test.YtidmfcamlgeipaaMg01
import Derived.Test.YtidmfcamlgeipaaMg04
/-
  What may be read first in a region that draws its order and whose last operations (Z) write into what was read: the condition on the world need not hold behind those. No conditions beyond those that each states.
-/
namespace Go.Proofs.Ytidmfcamlgeipaa.Sha
open Go Go.RowKit
section
variable {P : Program} {md : Region.Mode} {ops : Array Oper} {Q : Exit → Act → World → Prop} {S T : World → Prop} {Z : List Nat}
/-- None of Z has come up. -/
def endOpen (Z : List Nat) (done : Array Bool) : Bool := Z.all fun z => !done.getD z true
/-- Any order; the condition behind each operation while none of Z has come up. -/
def EndAny (P : Program) (md : Region.Mode) (ops : Array Oper) (Q : Exit → Act → World → Prop) (S : World → Prop) (Z : List Nat) : Nat → Array Bool → Act → World → Prop
  | 0, done, a, w => Region.ready md ops done = [] ∧ Q .normal a w
  | f + 1, done, a, w => (Region.ready md ops done = [] → Q .normal a w) ∧ ∀ j ∈ Region.ready md ops done, wpOp P ops Q j (fun b u => (endOpen Z (done.setIfInBounds j true) = true → S u) ∧ EndAny P md ops Q S Z f (done.setIfInBounds j true) b u) a w
theorem EndAny.any : ∀ (f : Nat) (done : Array Bool) (a : Act) (w : World), EndAny P md ops Q S Z f done a w → wpAny P md ops Q f done a w
  | 0, _, _, _, h => h
  | f + 1, _, _, _, h => ⟨h.1, fun j hj => wpOp_mono (fun b u hb => EndAny.any f _ b u hb.2) (h.2 j hj)⟩
/-- j waits for i, at once or through others. -/
def endAnc (md : Region.Mode) (ops : Array Oper) (i : Nat) : Nat → Nat → Bool
  | 0, _ => false
  | f + 1, j => match ops[j]? with | none => false | some o => o.after.any fun e => Region.binds md e && (e.on == i || endAnc md ops i f e.on)
def endWaits (md : Region.Mode) (ops : Array Oper) (Z : List Nat) (i : Nat) : Bool := Z.all fun z => endAnc md ops i ops.size z
/-- Who has come up has all come up that it waits for. -/
def EndClosed (md : Region.Mode) (ops : Array Oper) (done : Array Bool) : Prop := ∀ (j : Nat) (o : Oper), ops[j]? = some o → done.getD j true = true → ∀ e ∈ o.after, Region.binds md e = true → done.getD e.on false = true
def endClosed (md : Region.Mode) (ops : Array Oper) (done : Array Bool) : Bool := (List.range ops.size).all fun j => match ops[j]? with | none => true | some o => !done.getD j true || o.after.all fun e => !Region.binds md e || done.getD e.on false
theorem endClosed_spec {done : Array Bool} (h : endClosed md ops done = true) : EndClosed md ops done := by
  intro j o hj hd e he hb
  have h1 := List.all_eq_true.1 h j (List.mem_range.2 (Array.getElem?_eq_some_iff.1 hj).1)
  rw [hj] at h1
  simp only [hd, Bool.not_true, Bool.false_or] at h1
  obtain ⟨x, hx, rfl⟩ := Array.getElem_of_mem he
  have h2 := Array.all_eq_true.1 h1 x hx
  rw [hb, Bool.not_true, Bool.false_or] at h2
  exact h2
theorem getD_both {done : Array Bool} {i : Nat} (h0 : done.getD i true = false) (h1 : done.getD i false = true) : False := by
  by_cases hlt : i < done.size
  · simp only [Array.getD, hlt, dif_pos] at h0 h1
    rw [h0] at h1
    cases h1
  · simp only [Array.getD, hlt, dif_neg, not_false_eq_true] at h1
    cases h1
theorem getD_up {done : Array Bool} {i : Nat} (h : done.getD i false = true) : done.getD i true = true := by
  by_cases hlt : i < done.size
  · simp only [Array.getD, hlt, dif_pos] at h ⊢
    exact h
  · simp [Array.getD, hlt]
theorem endAnc_done {done : Array Bool} {i : Nat} (hc : EndClosed md ops done) : ∀ (f j : Nat) (o : Oper), ops[j]? = some o → (∀ e ∈ o.after, Region.binds md e = true → done.getD e.on false = true) → endAnc md ops i f j = true → done.getD i false = true
  | 0, _, _, _, _, h => by cases h
  | f + 1, j, o, hj, ha, h => by
    rw [endAnc, hj] at h
    have h : o.after.any (fun e => Region.binds md e && (e.on == i || endAnc md ops i f e.on)) = true := h
    obtain ⟨x, hx, h2⟩ := Array.any_eq_true.1 h
    rw [Bool.and_eq_true, Bool.or_eq_true, beq_iff_eq] at h2
    have hd := ha _ (Array.getElem_mem hx) h2.1
    rcases h2.2 with h3 | h3
    · rw [← h3]
      exact hd
    · cases hk : ops[(o.after[x]).on]? with
      | none =>
        cases f with
        | zero => cases h3
        | succ f => rw [endAnc, hk] at h3; cases h3
      | some ok => exact endAnc_done hc f _ ok hk (hc _ ok hk (getD_up hd)) h3
theorem endOpen_back {done : Array Bool} {i : Nat} (h : endOpen Z (done.setIfInBounds i true) = true) : endOpen Z done = true := by
  rw [endOpen, List.all_eq_true] at h ⊢
  intro z hz
  have h1 := h z hz
  by_cases hiz : i = z
  · subst hiz
    rw [Bool.not_eq_true'] at h1
    by_cases hlt : i < done.size
    · simp [Array.getD, hlt] at h1
    · simp [Array.getD, hlt] at h1
  · rwa [getD_set_ne true hiz] at h1
theorem endOpen_other {done : Array Bool} {i : Nat} (hi : i ∉ Z) (h : endOpen Z done = true) : endOpen Z (done.setIfInBounds i true) = true := by
  rw [endOpen, List.all_eq_true] at h ⊢
  intro z hz
  have h1 := h z hz
  rw [getD_set_ne true (fun e => hi (by rw [e]; exact hz))]
  exact h1
theorem endOpen_of {done : Array Bool} {i j : Nat} {oj : Oper} (hc : EndClosed md ops done) (hz : endWaits md ops Z i = true) (h0 : done.getD i true = false) (hoj : ops[j]? = some oj) (hall : ∀ e ∈ oj.after, Region.binds md e = true → done.getD e.on false = true) : endOpen Z (done.setIfInBounds j true) = true := by
  rw [endOpen, List.all_eq_true]
  intro z hm
  have h1 := List.all_eq_true.1 hz z hm
  have hjz : j ≠ z := fun e => by
    rw [← e] at h1
    exact getD_both h0 (endAnc_done hc _ j oj hoj hall h1)
  rw [getD_set_ne true hjz, Bool.not_eq_true']
  cases hd : done.getD z true with
  | false => rfl
  | true =>
    cases hk : ops[z]? with
    | none =>
      cases hs : ops.size with
      | zero => rw [hs] at h1; cases h1
      | succ f => rw [hs, endAnc, hk] at h1; cases h1
    | some ok => exact (getD_both h0 (endAnc_done hc _ z ok hk (hc z ok hk hd) h1)).elim
theorem EndAny.first {i : Nat} {oi : Oper} {v : Value} (hi : ops[i]? = some oi) (hiz : i ∉ Z) (hz : (∀ w, T w) ∨ (endWaits md ops Z i = true ∧ ∀ w, S w → T w)) (hsel : ∀ (j : Nat) (o : Oper) cs b, ops[j]? = some o → o.op ≠ .select cs b) (hQ : ∀ c a w, Q (.panic c) (a.put oi.dst v) w → Q (.panic c) a w) :
    ∀ (f : Nat) (done : Array Bool) (a : Act) (w : World), EndClosed md ops done → (∀ j oj, ops[j]? = some oj → j ≠ i → done.getD j true = false → (∀ e ∈ oj.after, Region.binds md e = true → e.on ≠ i) → oi.apart ops oj = true) →
      i ∈ Region.ready md ops done → YieldsIf P ops T oi v a → T w → (endOpen Z done = true → S w) → EndAny P md ops Q S Z f (done.setIfInBounds i true) (a.put oi.dst v) w → EndAny P md ops Q S Z (f + 1) done a w := by
  have lone : ∀ {f : Nat} {done : Array Bool} {a : Act} {w : World}, YieldsIf P ops T oi v a → T w → (endOpen Z done = true → S w) → EndAny P md ops Q S Z f (done.setIfInBounds i true) (a.put oi.dst v) w →
      wpOp P ops Q i (fun b u => (endOpen Z (done.setIfInBounds i true) = true → S u) ∧ EndAny P md ops Q S Z f (done.setIfInBounds i true) b u) a w := fun hy hw hs h => hy.wpOp hi hw ⟨fun ho => hs (endOpen_back ho), h⟩
  intro f
  induction f with
  | zero =>
    intro done a w _ _ hr hy hw hs h
    constructor
    · intro h0
      exact absurd hr (by rw [h0]; simp)
    · intro j hj
      by_cases hji : j = i
      · rw [hji]
        exact lone hy hw hs h
      · have h2 := ready_mono hj hji
        rw [h.1] at h2
        exact absurd h2 (by simp)
  | succ f ih =>
    intro done a w hcl hfree hr hy hw hs h
    constructor
    · intro h0
      exact absurd hr (by rw [h0]; simp)
    · intro j hj
      by_cases hji : j = i
      · rw [hji]
        exact lone hy hw hs h
      · obtain ⟨un, oj, hoj, hall⟩ := mem_ready.1 hj
        have h0 := (mem_ready.1 hr).1
        -- i has not come up yet: who comes up now does not wait for it
        have alone : ∀ e ∈ oj.after, Region.binds md e = true → e.on ≠ i := fun e he hb hei => by
          have h1 := hall e he hb
          rw [hei] at h1
          exact getD_both h0 h1
        have hk := wpOp_putIf hoj (hfree j oj hoj hji un alone) (fun cs b => hsel i oi cs b hi) (fun cs b => hsel j oj cs b hoj) hQ hy (h.2 j (ready_mono hj hji))
        refine wpOp_mono (fun b u hb => ?_) hk
        have hcl' : EndClosed md ops (done.setIfInBounds j true) := by
          intro k ok hok hd e he hb2
          by_cases hjk : j = k
          · rw [← hjk, hoj] at hok
            cases hok
            exact getD_set_true (hall e he hb2)
          · rw [getD_set_ne true hjk] at hd
            exact getD_set_true (hcl k ok hok hd e he hb2)
        have hs2 : endOpen Z (done.setIfInBounds j true) = true → S u := fun ho => hb.2.1 (by
          rw [Array.setIfInBounds_comm _ _ (fun e => hji e.symm)]
          exact endOpen_other hiz ho)
        have ht : T u := by
          rcases hz with hz | ⟨hz, hst⟩
          · exact hz u
          · exact hst u (hs2 (endOpen_of hcl hz h0 hoj hall))
        refine ⟨hs2, ih _ b u hcl' (fun k ok hok hki hun hno => hfree k ok hok hki ?_ hno) (ready_mono hr (fun e => hji e.symm)) hb.1 ht hs2 ?_⟩
        · by_cases hjk : j = k
          · rw [← hjk]
            exact un
          · rw [getD_set_ne true hjk] at hun
            exact hun
        · have := hb.2.2
          rwa [Array.setIfInBounds_comm _ _ hji]
end
section
variable {P : Program} {md : Region.Mode} {l : List Oper} {Q : Exit → Act → World → Prop} {S : World → Prop} {Z : List Nat}
/-- What every world of the condition yields, and all of Z wait for, is taken first. -/
theorem end_take {i : Nat} {oi : Oper} {rest : List Oper} {v : Value} {f : Nat} {done : Array Bool} {a : Act} {w : World} (hd : l.drop i = oi :: rest) (hz : (endWaits md l.toArray Z i && !Z.contains i && endClosed md l.toArray done) = true)
    (hs : Region.noSelect l.toArray = true) (hf : Region.free md l.toArray done i = true) (hr : (Region.ready md l.toArray done).contains i = true)
    (hQ : ∀ c a w, Q (.panic c) (a.put oi.dst v) w → Q (.panic c) a w) (hy : YieldsIf P l.toArray S oi v a) (hS : S w)
    (h : EndAny P md l.toArray Q S Z f (done.setIfInBounds i true) (a.put oi.dst v) w) : EndAny P md l.toArray Q S Z (f + 1) done a w := by
  have hi : l.toArray[i]? = some oi := by rw [List.getElem?_toArray]; exact get_of_drop hd
  rw [Bool.and_eq_true, Bool.and_eq_true, Bool.not_eq_true'] at hz
  exact EndAny.first (T := S) hi (fun hm => by have := hz.1.2; simp [hm] at this) (.inr ⟨hz.1.1, fun _ h => h⟩) (Region.noSelect_spec hs) hQ f done a w (endClosed_spec hz.2) (Region.free_spec hi hf) (by simpa using hr) hy hS (fun _ => hS) h
/-- What any world yields is taken first. -/
theorem end_pure {i : Nat} {oi : Oper} {rest : List Oper} {v : Value} {f : Nat} {done : Array Bool} {a : Act} {w : World} (hd : l.drop i = oi :: rest) (hz : (!Z.contains i && endClosed md l.toArray done) = true)
    (hs : Region.noSelect l.toArray = true) (hf : Region.free md l.toArray done i = true) (hr : (Region.ready md l.toArray done).contains i = true)
    (hQ : ∀ c a w, Q (.panic c) (a.put oi.dst v) w → Q (.panic c) a w) (hy : YieldsIf P l.toArray (fun _ => True) oi v a) (hS : endOpen Z done = true → S w)
    (h : EndAny P md l.toArray Q S Z f (done.setIfInBounds i true) (a.put oi.dst v) w) : EndAny P md l.toArray Q S Z (f + 1) done a w := by
  have hi : l.toArray[i]? = some oi := by rw [List.getElem?_toArray]; exact get_of_drop hd
  rw [Bool.and_eq_true, Bool.not_eq_true'] at hz
  exact EndAny.first (T := fun _ => True) hi (fun hm => by have := hz.1; simp [hm] at this) (.inl fun _ => trivial) (Region.noSelect_spec hs) hQ f done a w (endClosed_spec hz.2) (Region.free_spec hi hf) (by simpa using hr) hy trivial hS h
/-- The same, behind one of Z. -/
theorem end_late {i : Nat} {oi : Oper} {rest : List Oper} {v : Value} {f : Nat} {done : Array Bool} {a : Act} {w : World} (hd : l.drop i = oi :: rest) (hz : (!Z.contains i && endClosed md l.toArray done) = true) (ho : endOpen Z done = false)
    (hs : Region.noSelect l.toArray = true) (hf : Region.free md l.toArray done i = true) (hr : (Region.ready md l.toArray done).contains i = true)
    (hQ : ∀ c a w, Q (.panic c) (a.put oi.dst v) w → Q (.panic c) a w) (hy : YieldsIf P l.toArray (fun _ => True) oi v a)
    (h : EndAny P md l.toArray Q S Z f (done.setIfInBounds i true) (a.put oi.dst v) w) : EndAny P md l.toArray Q S Z (f + 1) done a w :=
  end_pure hd hz hs hf hr hQ hy (fun h => absurd h (by rw [ho]; decide)) h
/-- Operation i, alone, comes up: none of Z. -/
theorem end_next {f i : Nat} {done : Array Bool} {a : Act} {w : World} {o : Oper} {rest : List Oper} (hr : Region.ready md l.toArray done = [i]) (hd : l.drop i = o :: rest)
    (h : ∀ K' : Act → World → Prop, Shut (∀ a w, S w → (S w → EndAny P md l.toArray Q S Z f (done.setIfInBounds i true) a w) → K' a w) → if Region.wanted o (yielded l.toArray a.tmps) = true then Oper.wp P o a w K' Q else K' (a.put o.dst undef) w) :
    EndAny P md l.toArray Q S Z (f + 1) done a w := by
  refine ⟨fun h0 => (by rw [hr] at h0; cases h0), fun j hj => ?_⟩
  rw [hr] at hj
  obtain rfl := List.mem_singleton.1 hj
  exact wpOp_step (by rw [List.getElem?_toArray]; exact get_of_drop hd) (fun K' hK => h K' (fun a w hS hW => hK a w ⟨fun _ => hS, hW hS⟩))
/-- One of Z comes up, or one behind: nothing is asked of the world any more. -/
theorem end_last {f i : Nat} {done : Array Bool} {a : Act} {w : World} {o : Oper} {rest : List Oper} (hr : Region.ready md l.toArray done = [i]) (ho : endOpen Z (done.setIfInBounds i true) = false) (hd : l.drop i = o :: rest)
    (h : ∀ K' : Act → World → Prop, Shut (∀ a w, EndAny P md l.toArray Q S Z f (done.setIfInBounds i true) a w → K' a w) → if Region.wanted o (yielded l.toArray a.tmps) = true then Oper.wp P o a w K' Q else K' (a.put o.dst undef) w) :
    EndAny P md l.toArray Q S Z (f + 1) done a w := by
  refine ⟨fun h0 => (by rw [hr] at h0; cases h0), fun j hj => ?_⟩
  rw [hr] at hj
  obtain rfl := List.mem_singleton.1 hj
  exact wpOp_step (by rw [List.getElem?_toArray]; exact get_of_drop hd) (fun K' hK => h K' (fun a w hW => hK a w ⟨fun h => absurd h (by rw [ho]; decide), hW⟩))
theorem end_done {done : Array Bool} {a : Act} {w : World} (hr : Region.ready md l.toArray done = []) (h : Q .normal a w) : ∀ f, EndAny P md l.toArray Q S Z f done a w
  | 0 => ⟨hr, h⟩
  | _ + 1 => ⟨fun _ => h, fun j hj => by rw [hr] at hj; cases hj⟩
/-- The region's head. -/
theorem wp_region_end (S : World → Prop) (Z : List Nat) {id : Nat} {a : Act} {w : World} (hm : P.follows .mixedOrders = true) (hS : S w.drew) (h : S w.drew → EndAny P .any l.toArray Q S Z l.toArray.size (Array.replicate l.toArray.size false) a w.drew) :
    (Code.region id l.toArray true).wp P Q a w := wp_region_any hm (EndAny.any _ _ _ _ (h hS))
end
end Go.Proofs.Ytidmfcamlgeipaa.Sha

/-
  The project's Median: the one in the middle of the last eleven. Nothing that was there turns. Condition: a length that fits.
-/
namespace Go.Proofs.Ytidmfcamlgeipaa.Sha
open Go Go.RowKit
open Go.Sort (swp insInner insOuter ltInt putRow Holds putRow_self cell?_putRow frozen?_putRow holds_ahead size_swp cell?_putRow_other)
theorem wp_copy_into {P : Program} {w : World} {o : Oper} {a : Act} {K : Act → World → Prop} {Q : Exit → Act → World → Prop} (d s : Operand) (dT sT : TypeId)
    (ho : o.op = .call { callee := .builtin .copy, args := #[d, s], argTypes := #[dT, sT] }) (elem : TypeId) (hu : P.underlying dT = some (.slice elem)) (hsz : (P.info? elem).map (·.size) = some 1)
    (dp sp : Option Addr) (dLen dCap sLen sCap : Nat) (hd : a.eval d = .slice dp dLen dCap) (hs : a.eval s = .slice sp sLen sCap)
    (g off : Nat) (cur : List Value) (t : TypeId) (hg : w.heap[g]? = some (.cells cur.toArray t (0, 0))) (cs : List Value) (m : Nat) (hm : cs.length = m) (hn : cs.length = Nat.min sLen dLen)
    (hpos : 0 < cs.length → dp = some ⟨g, off, none⟩ ∧ ∃ ad, sp = some ad ∧ ∀ j v, cs[j]? = some v → w.cell? (ad.add j) = some v)
    (hfit : off + cs.length ≤ cur.length) (h1 : ∀ v ∈ cs, v.oneCell' = true)
    (h : ∀ w', w'.heap[g]? = some (.cells (splice cur off cs).toArray t (0, 0)) → w.grownBy w' (some g) → K (a.put o.dst (.int .i64 (m : Int))) w') :
    o.wp P a w K Q := by
  have hm' : (.int .i64 (m : Int) : Value) = goInt cs.length := by rw [hm]; rfl
  rw [hm'] at h
  clear hm hm'
  by_cases h0 : cs.length = 0
  · obtain rfl : cs = [] := List.eq_nil_of_length_eq_zero h0
    have hrun := run_copy_none (P := P) w dT sT o.type elem dp sp dLen dCap sLen sCap hu hsz (by simpa using hn.symm)
    unfold Oper.wp
    simp [execOp, ho, resolve, invoke, builtin, hd, hs, hrun, Result.andThen]
    exact h w (by rw [splice_nil]; exact hg) (grownBy_refl _ _)
  · obtain ⟨rfl, ad, rfl, hsrc⟩ := hpos (by omega)
    have hrun := run_copy_row (P := P) w dT sT o.type elem g off dLen dCap ad sLen sCap cur.toArray t cs hu hsz hg hn hsrc (by simpa using hfit) h1
    unfold Oper.wp
    simp [execOp, ho, resolve, invoke, builtin, hd, hs, hrun, Result.andThen]
    exact h _ (by simpa [splice] using setRow_heap w g _ _ t _ hg) (grownBy_setRow _ _ _)
theorem wpList_slice_arrh {P : Program} {w : World} {ops : Array Oper} {rest : List Oper} {o : Oper} {a : Act} {Q : Exit → Act → World → Prop} (hgd : o.guard = none) (t : TypeId) (x h' : Operand)
    (ho : o.op = .slice t x none (some h') none) (e N : Nat) (hu : P.underlying t = some (.array N e)) (hsz : (P.info? e).map (·.size) = some 1) (g n : Nat) (hx : a.eval x = .pointer (some ⟨g, 0, none⟩)) (hl : a.eval h' = .int .i64 n) (hn : n ≤ N)
    (h : wpList P ops Q rest (a.put o.dst (.slice (some ⟨g, 0, none⟩) n N)) w) : wpList P ops Q (o :: rest) a w := by
  refine wpList_plain hgd fun K hK => ?_
  obtain ⟨i, hi, h1⟩ := Option.map_eq_some_iff.1 hsz
  have hel : P.elem t = e := by simp [Program.elem, hu]
  have hal : P.arrayLen t = N := by simp [Program.arrayLen, hu]
  have hu' : P.underlying t = some (.array (P.arrayLen t) (P.elem t)) := by rw [hel, hal]; exact hu
  have hr : (Instr.sliceAt t (.pointer (some ⟨g, 0, none⟩)) none (some (.int .i64 n)) none).run P w = .ok (.slice (some ⟨g, 0, none⟩) n N) w := by
    rw [run_sliceAt_array_h _ _ _ hu' _ _ (by omega) (by omega), hel, hal]
    simp [sizeOf, typeInfo, hi, h1, slicedAt, go_sem]
  unfold Oper.wp
  simp [execOp, ho, hx, hl, hr, Result.andThen]
  exact hK _ _ h
/-- The row as the library's sort wants it. -/
def u32A (l : List Nat) : Array Int := (l.map (fun (x : Nat) => (x : Int))).toArray
theorem u32A_size (l : List Nat) : (u32A l).size = l.length := by simp [u32A]
theorem u32A_get {l : List Nat} {i x : Nat} (h : l[i]? = some x) : (u32A l)[i]! = (x : Int) := by
  obtain ⟨h1, h2⟩ := List.getElem?_eq_some_iff.1 h
  unfold u32A
  rw [getElem!_pos _ i (by simpa using h1)]
  simp [h2]
theorem ins_sortM (l : List Nat) : Sort.insertionSort ltInt (u32A l) 0 (u32A l).size = u32A (sortM l) := by
  obtain ⟨hp, hs⟩ := Sort.insertionSort_holds Sort.swo_ltInt (u32A l) 0 (u32A l).size (Nat.zero_le _) (Nat.le_refl _)
  have h := Sort.sorted_unique_holds (lt := ltInt) Sort.swo_ltInt (fun x y h1 h2 => by simp [ltInt] at h1 h2; omega) (u32A l) _ hp hs
  have e : (u32A (sortM l)).toList = (u32A l).toList.mergeSort (fun x y => !ltInt y x) := by
    refine List.Perm.eq_of_pairwise (le := fun x y : Int => x ≤ y) (fun a b _ _ h1 h2 => Int.le_antisymm h1 h2) ?_ ?_ ?_
    · unfold u32A
      exact (List.pairwise_map.2 ((sortM_sorted l).imp (fun h => by exact_mod_cast h)))
    · have h3 := List.pairwise_mergeSort (le := fun x y : Int => !ltInt y x) (fun a b c h1 h2 => by simp [ltInt] at h1 h2 ⊢; omega) (fun a b => by simp [ltInt]; omega) (u32A l).toList
      exact h3.imp (fun h => by simp [ltInt] at h; exact h)
    · refine List.Perm.trans ?_ (List.mergeSort_perm _ _).symm
      unfold u32A
      exact (sortM_perm l).map _
  rw [← e] at h
  exact Array.toList_inj.1 h
theorem yieldsIf_cut_l {P : Program} {ops : Array Oper} {S : World → Prop} {op : Oper} {a : Act} (hw : Region.wanted op (yielded ops a.tmps) = true) (t : TypeId) (x lo : Operand) (ho : op.op = .slice t x (some lo) none none) (e : TypeId) (hu : P.underlying t = some (.slice e)) (hsz : (P.info? e).map (·.size) = some 1)
    (sp : Option Addr) (n cap l : Nat) (hx : a.eval x = .slice sp n cap) (hl : a.eval lo = .int .i64 l) (h1 : l ≤ n) (v : Value) (hv : sliced sp l n cap 1 = v) : YieldsIf P ops S op v a :=
  .inl ⟨hw, fun w _ => by
    unfold execOp
    simp [ho, hx, hl, run_cut_l (w := w) t e sp n cap l hu hsz h1, Result.andThen, hv]⟩
theorem ps_holds {w : World} {g : Nat} {cur : List Value} {T : TypeId} {t : List Nat} (hb : w.heap[g]? = some (.cells (splice cur 0 (t.map (fun (x : Nat) => Value.int .u32 (x : Int)))).toArray T (0, 0))) : Holds (Value.int .u32) w g 0 (u32A t) := by
  intro j hj
  rw [u32A_size] at hj
  rw [Nat.zero_add]
  refine ⟨?_, frozen_of_row _ _ _ _ _ hb⟩
  obtain ⟨x, hx⟩ : ∃ x, t[j]? = some x := ⟨_, List.getElem?_eq_getElem hj⟩
  rw [cell_of_row _ _ _ _ _ _ hb, u32A_get hx]
  simp only [splice, List.take_zero, List.nil_append, List.getElem?_toArray]
  rw [List.getElem?_append_left (by rw [List.length_map]; exact hj), List.getElem?_map, hx]
  rfl
theorem ps_src {w : World} {sp : Option Addr} {m cap : Nat} {t : List Nat} (h : RwAt 1 w (.slice sp m cap) (t.map u32C)) (h0 : 0 < t.length) : ∃ ad, sp = some ad ∧ ∀ j v, (t.map (fun (x : Nat) => Value.int .u32 (x : Int)))[j]? = some v → w.cell? (ad.add j) = some v := by
  have hl := h.len.1
  rw [List.length_map] at hl
  obtain ⟨b, o, rfl, hg⟩ := h.get (by omega)
  refine ⟨_, rfl, fun j v hv => ?_⟩
  rw [List.getElem?_map] at hv
  obtain ⟨x, hx, rfl⟩ := Option.map_eq_some_iff.1 hv
  rw [Addr.add_mid]
  exact u32_cell (hg j (u32C x) (by rw [List.getElem?_map, hx]; rfl))
set_option maxHeartbeats 4000000 in
set_option maxRecDepth 100000 in
theorem psmed_any (l : List Nat) (v : Value) (w : World) (hl : RwAt 1 w v (l.map u32C)) (hn : l.length ≤ 1048576) :
    Calls Try.prog 6 #[v] w fun e w' => e = .returned (.int .u32 (medN l : Int)) ∧ Below w.heap.size w w' := by
  obtain ⟨sp, cap, rfl⟩ := hl.shape
  rw [List.length_map] at hl ⊢
  obtain ⟨n, hnl⟩ : ∃ n, n = l.length := ⟨_, rfl⟩
  obtain ⟨t, ht⟩ : ∃ t, t = last11 l := ⟨_, rfl⟩
  have TL : Hid (t.length = min n 11) := by show _ = _; rw [ht, hnl]; unfold last11; rw [List.length_drop]; omega
  have TE : Hid (t = l.drop (n - 11)) := by show _ = _; rw [ht, hnl]; rfl
  have MD : Hid (medN l = (sortM t).getD ((sortM t).length / 2) 0) := by show _ = _; rw [ht]; rfl
  have HN := Lib.hid hnl
  rw [← hnl] at hl hn ⊢
  have HL := Lib.hid hl
  clear hl ht hnl
  go_enter Try.func6, Try.ntmps6
  go_upto_region 2 with fail
  have f0 : (w.alloc (.cells (List.replicate 11 (Value.int .u32 0)).toArray 30 (0, 0))).heap[w.heap.size]? = some (.cells (List.replicate 11 (Value.int .u32 0)).toArray 30 (0, 0)) := heap_alloc_new w _
  have bb := (Below.refl w.heap.size w).alloc (Nat.le_refl _) (.cells (List.replicate 11 (Value.int .u32 0)).toArray 30 (0, 0))
  generalize hq : World.alloc _ _ = w1
  have eq : w.alloc (.cells (List.replicate 11 (Value.int .u32 0)).toArray 30 (0, 0)) = w1 := hq
  rw [eq] at f0 bb
  obtain ⟨g, hg⟩ : ∃ g, g = w.heap.size := ⟨_, rfl⟩
  rw [← hg] at f0 ⊢
  have F1 := Lib.hid f0
  have B1 : Hid (Below w.heap.size w w1) := bb
  have G : Hid (w.heap.size ≤ g) := by show _ ≤ _; rw [hg]; exact Nat.le_refl _
  clear f0 bb hq eq hg
  obtain ⟨d, hd⟩ : ∃ d, d = n - 11 := ⟨_, rfl⟩
  have dn : d ≤ n := by omega
  have dz : max (0 : Int) ((n : Int) - 11) = (d : Int) := by omega
  obtain ⟨m, hm⟩ : ∃ m, m = t.length := ⟨_, rfl⟩
  have TM : Hid (t.length = m) := hm.symm
  have M11 : Hid (m ≤ 11) := by show _ ≤ _; rw [hm, TL.out]; omega
  obtain ⟨vt, VT⟩ : ∃ vt, Hid (vt = sliced sp d n cap 1) := ⟨_, rfl⟩
  have RT : Hid (RwAt 1 w vt (t.map u32C)) := by
    have h := RwAt.cut HL.out d n dn (Nat.le_refl _)
    rw [List.take_of_length_le (by rw [List.length_map, HN.out]; exact Nat.le_refl _), ← List.map_drop, hd, ← TE.out, ← hd] at h
    rw [VT.out]
    exact h
  obtain ⟨sp2, cap2, v2⟩ := RT.out.shape
  rw [List.length_map, ← hm] at v2
  have V2 := Lib.hid v2
  clear v2 hd hm
  have IW : Hid (IntKind.i64.wrap ((n : Int) - 11) = (n : Int) - 11) := IntWalk.i64_in _ (by omega)
  refine wp_region_end (fun w' => Below w1.heap.size w1 w') [7] (by kernel_rfl) (Below.drew (Below.refl _ _)) (fun hHeld => ?_)
  generalize hwd : w1.drew = wd at  hHeld ⊢
  clear hwd
  refine end_take (i := 0) (v := (.slice (some ⟨g, 0, none⟩) 11 11)) rfl (by kernel_rfl) (by kernel_rfl) (by kernel_rfl) (by kernel_rfl) (fun _ _ _ h => h) (Or.inl ⟨by rfl, fun w' _ => by go_simp⟩) hHeld ?_
  go_frame
  refine end_take (i := 1) (v := (.slice sp n cap)) rfl (by kernel_rfl) (by kernel_rfl) (by kernel_rfl) (by kernel_rfl) (fun _ _ _ h => h) (Or.inl ⟨by rfl, fun w' _ => by kernel_rfl⟩) hHeld ?_
  go_frame
  refine end_take (i := 2) (v := (.slice sp n cap)) rfl (by kernel_rfl) (by kernel_rfl) (by kernel_rfl) (by kernel_rfl) (fun _ _ _ h => h) (Or.inl ⟨by rfl, fun w' _ => by kernel_rfl⟩) hHeld ?_
  go_frame
  refine end_take (i := 3) (v := (.int .i64 (n : Int))) rfl (by kernel_rfl) (by kernel_rfl) (by kernel_rfl) (by kernel_rfl) (fun _ _ _ h => h) (Or.inl ⟨by rfl, fun w' _ => by go_simp⟩) hHeld ?_
  go_frame
  refine end_take (i := 4) (v := (.int .i64 ((n : Int) - 11))) rfl (by kernel_rfl) (by kernel_rfl) (by kernel_rfl) (by kernel_rfl) (fun _ _ _ h => h) (Or.inl ⟨by rfl, fun w' _ => by go_simp; exact IW.out⟩) hHeld ?_
  go_frame
  refine end_take (i := 5) (v := (.int .i64 (d : Int))) rfl (by kernel_rfl) (by kernel_rfl) (by kernel_rfl) (by kernel_rfl) (fun _ _ _ h => h) (Or.inl ⟨by rfl, fun w' _ => by go_simp⟩) hHeld ?_
  go_frame
  refine end_take (i := 6) (v := vt) rfl (by kernel_rfl) (by kernel_rfl) (by kernel_rfl) (by kernel_rfl) (fun _ _ _ h => h) (yieldsIf_cut_l (by rfl) 22 (.tmp 6) (.tmp 10) rfl 24 Try.underlying22 (by kernel_rfl) sp n cap d rfl rfl dn vt VT.out.symm) hHeld ?_
  go_frame
  refine end_last (i := 7) (by kernel_rfl) (by kernel_rfl) rfl (fun K hK => ?_)
  rw [if_pos (by rfl)]
  have FA := Lib.hid (row_below F1.out hHeld)
  have Ba := Lib.hid (B1.out.trans (hHeld.mono B1.out.size))
  have RA := Lib.hid (RT.out.below (B1.out.trans (hHeld.mono B1.out.size)))
  refine wp_copy_into (.tmp 5) (.tmp 11) 22 22 rfl 24 Try.underlying22 (by kernel_rfl) (some ⟨g, 0, none⟩) sp2 11 11 m cap2 rfl V2.out g 0 (List.replicate 11 (Value.int .u32 0)) 30 FA.out (t.map (fun (x : Nat) => Value.int .u32 (x : Int))) m (by rw [List.length_map]; exact TM.out) (by rw [List.length_map, TM.out]; have := M11.out; exact (Nat.min_eq_left this).symm) (fun h => ⟨rfl, ps_src (by rw [V2.out] at RA; exact RA.out) (by rw [List.length_map] at h; exact h)⟩) (by rw [List.length_map, TM.out]; have := M11.out; simpa using this) (fun v hv => by obtain ⟨x, _, rfl⟩ := List.mem_map.1 hv; rfl) ?_
  intro v1 q1 q2
  have FN := Lib.hid q1
  have BN : Hid (Below w.heap.size w v1) := Ba.out.grown q2 Ba.out.size (fun k hk => by cases hk; exact G.out)
  clear q1 q2 hHeld FA Ba RA
  go_frame
  refine hK.out _ _ ?_
  clear hK K
  refine end_late (i := 8) (v := (.int .i64 (m : Int))) rfl (by kernel_rfl) (by kernel_rfl) (by kernel_rfl) (by kernel_rfl) (by kernel_rfl) (fun _ _ _ h => h) (Or.inl ⟨by rfl, fun w' _ => by kernel_rfl⟩) ?_
  go_frame
  refine end_done (by kernel_rfl) ?_ _
  have HO := Lib.hid (ps_holds FN.out)
  have hm11 : m ≤ 11 := M11.out
  have HS : Hid (Calls Try.prog 9 #[.slice (some ⟨g, 0, none⟩) m 11] v1 fun e w' => e = .returned (.tuple #[]) ∧ w'.cell? ⟨g, m / 2, none⟩ = some (.int .u32 (medN l : Int)) ∧ Below w.heap.size w w') := by
    show Calls _ _ _ _ _
    have h := pssort_any g 0 11 (u32A t) v1 HO.out (by rw [u32A_size, TM.out]; omega)
    rw [ins_sortM, u32A_size, TM.out] at h
    refine h.mono ?_
    rintro e w' ⟨rfl, q, rfl⟩
    refine ⟨rfl, ?_, Lib.below_putRow BN.out G.out⟩
    have hs : (sortM t).length = m := by rw [sortM_len, TM.out]
    rw [MD.out, hs]
    by_cases h0 : m = 0
    · have ht0 : t = [] := List.eq_nil_of_length_eq_zero (TM.out.trans h0)
      have fn := FN.out
      rw [h0, ht0] at *
      rw [cell?_putRow_other _ _ _ _ _ _ (Or.inr (Or.inr (by simp [u32A_size, sortM]))), Sort.cell?_ahead, cell_of_row _ _ _ _ _ _ fn]
      rfl
    · obtain ⟨x, hx⟩ : ∃ x, (sortM t)[m / 2]? = some x := ⟨_, List.getElem?_eq_getElem (by omega)⟩
      have hc := cell?_putRow (Value.int .u32) (Sort.ahead v1 q) g 0 (u32A t) (u32A (sortM t)) (holds_ahead _ _ _ _ _ _ HO.out) (by rw [u32A_size, u32A_size, sortM_len]) (m / 2) (by rw [u32A_size, hs]; omega)
      rw [Nat.zero_add] at hc
      rw [hc, u32A_get hx, List.getD_eq_getElem?_getD, hx]
      rfl
  clear FN BN HO
  go_wp2_with (first | ((with_reducible show wpList _ _ _ _ _ _); refine wpList_slice_arrh rfl 30 (.tmp 3) (.tmp 13) rfl 24 11 Try.underlying30 (by kernel_rfl) g m rfl rfl hm11 ?_; go_frame) | (go_at_call 9; refine HS.out.mono ?_; rintro e w2 ⟨rfl, hc, hb⟩; have HB := Lib.hid hb; clear hb))
  go_ret
  exact ⟨rfl, HB.out⟩
end Go.Proofs.Ytidmfcamlgeipaa.Sha

/-
  The chapter's examples. No conditions.
-/
namespace Go.Proofs.Ytidmfcamlgeipaa.Sha
open Go Go.RowKit
theorem ps_row {w : World} {g : Nat} {T : TypeId} (t : List Nat) (hb : w.heap[g]? = some (.cells (t.map (fun (x : Nat) => Value.int .u32 (x : Int))).toArray T (0, 0))) : RwAt 1 w (.slice (some ⟨g, 0, none⟩) t.length t.length) (t.map u32C) := by
  refine ⟨fun m hm => ?_, _, t.length, by rw [List.length_map], by rw [List.length_map]; exact Nat.le_refl _, fun h0 => ⟨g, 0, rfl, fun i x hx => ?_⟩⟩
  · obtain ⟨x, _, rfl⟩ := List.mem_map.1 hm
    rfl
  · rw [List.getElem?_map] at hx
    obtain ⟨y, hy, rfl⟩ := Option.map_eq_some_iff.1 hx
    intro j v hv
    rw [Nat.zero_add, Nat.mul_one]
    match j, hv with
    | 0, hv =>
      obtain rfl := Option.some.inj hv
      rw [Nat.add_zero, cell_of_row _ _ _ _ _ _ hb, List.getElem?_toArray, List.getElem?_map, hy]
      rfl
    | j + 1, hv => simp [u32C] at hv
theorem med3_any (g : Nat) (T : TypeId) (w : World) (hb : w.heap[g]? = some (.cells #[.int .u32 3, .int .u32 1, .int .u32 2] T (0, 0))) : Calls Try.prog 6 #[.slice (some ⟨g, 0, none⟩) 3 3] w fun e w' => e = .returned (.int .u32 2) ∧ Below w.heap.size w w' := by
  refine (psmed_any [3, 1, 2] _ w (ps_row [3, 1, 2] hb) (by decide)).mono ?_
  rintro e w' ⟨rfl, h⟩
  exact ⟨by rw [show medN [3, 1, 2] = 2 by decide]; rfl, h⟩
theorem med0_any (w : World) : Calls Try.prog 6 #[.slice none 0 0] w fun e w' => e = .returned (.int .u32 0) ∧ Below w.heap.size w w' := by
  refine (psmed_any [] _ w (RwAt.nil 1 w none 0) (by decide)).mono ?_
  rintro e w' ⟨rfl, h⟩
  exact ⟨by rw [show medN [] = 0 by decide]; rfl, h⟩
set_option maxHeartbeats 2000000 in
set_option maxRecDepth 100000 in
theorem psfirst_any (w : World) : Calls Try.prog 5 #[] w fun e w' => e = .returned (.bool true) ∧ Below w.heap.size w w' := by
  go_enter Try.func5, Try.ntmps5
  have f0 := heap_alloc_new w (.cells #[.int .u32 3, .int .u32 1, .int .u32 2] 24 (0, 0))
  have bb := (Below.refl w.heap.size w).alloc (Nat.le_refl _) (.cells #[.int .u32 3, .int .u32 1, .int .u32 2] 24 (0, 0))
  go_wp2_with fail
  generalize hq : World.alloc _ _ = w0 at f0 bb ⊢
  clear hq
  refine (med3_any _ _ _ f0).mono ?_
  rintro e w1 ⟨rfl, hb⟩
  have B1 := Lib.hid (bb.trans (hb.mono bb.size))
  clear hb bb f0
  go_wp2_with (go_at_call 6; refine (med0_any _).mono ?_; rintro e w2 ⟨rfl, hb⟩; have B2 := Lib.hid (B1.out.trans (hb.mono B1.out.size)); clear hb)
  go_ret
  exact ⟨rfl, B2.out⟩
end Go.Proofs.Ytidmfcamlgeipaa.Sha

/-
  The statements' own median of the last eleven of a row of numbers. Nothing that was there turns. Condition: at most 2^20 numbers.
-/
namespace Go.Proofs.Ytidmfcamlgeipaa.Sha
open Go Go.RowKit
theorem yieldsIf_cut_h {P : Program} {ops : Array Oper} {S : World → Prop} {op : Oper} {a : Act} (hw : Region.wanted op (yielded ops a.tmps) = true) (t : TypeId) (x hi : Operand) (ho : op.op = .slice t x none (some hi) none) (e : TypeId) (hu : P.underlying t = some (.slice e)) (hsz : (P.info? e).map (·.size) = some 1)
    (sp : Option Addr) (n cap r : Nat) (hx : a.eval x = .slice sp n cap) (hr : a.eval hi = .int .i64 r) (h2 : r ≤ cap) (v : Value) (hv : sliced sp 0 r cap 1 = v) : YieldsIf P ops S op v a :=
  .inl ⟨hw, fun w _ => by
    unfold execOp
    simp [ho, hx, hr, run_cut_h (w := w) t e sp n cap r hu hsz h2, Result.andThen, hv]⟩
theorem wp_slice_u32 {P : Program} {op : Oper} {a : Act} {w : World} {K : Act → World → Prop} {Q : Exit → Act → World → Prop} (t : TypeId) (x : Operand) {e : TypeId} (ho : op.op = .buildSlice t 1 #[(0, x)]) (y : Nat) (hx : a.eval x = .int .u32 (y : Int))
    (hu : P.underlying t = some (.slice e)) (i : TypeInfo) (z : Value) (hi : P.info? e = some i) (hz : i.zero = some z) (hs : i.size = 1)
    (h : K (a.put op.dst (.slice (some ⟨w.heap.size, 0, none⟩) 1 1)) (w.alloc (.cells (u32C y).toArray e))) : op.wp P a w K Q := by
  refine wp_buildSlice t e 1 _ ho (u32C y).toArray i z hu hi hz (by rw [hs]; omega) (by rw [hs]; omega) ?_ h
  have e1 : (Array.map (fun (q : Nat × Operand) => (q.1, a.eval q.2)) #[(0, x)]).toList = [(0, .int .u32 (y : Int))] := by simp [hx]
  rw [show (Array.map (fun (i, x) => (i, a.eval x)) #[(0, x)]).toList = [(0, .int .u32 (y : Int))] from e1, ← Array.toArray_toList (xs := Array.map _ _)]
  rw [fill_part _ 0 0 (.int .u32 (y : Int)) [.int .u32 (y : Int)] _ _ rfl (by rw [hs]; rfl) (by simp [hs])]
  simp [hs, u32C, Instr.fill]
def MdOut (t : List Nat) (w : World) (vs vi : Value) (wr : World) : Prop :=
  ∃ (k : Nat) (v : Value), v = vs ∧ vi = .int .i64 (k : Int) ∧ k ≤ t.length ∧ RwOwn 1 24 w.heap.size wr v ((sortM (t.take k)).map u32C) ∧ Below w.heap.size w wr
def MdIn (s : List Nat) (x n : Nat) (w : World) (vj : Value) (wr : World) : Prop :=
  ∃ j : Nat, vj = .int .i64 (j : Int) ∧ j ≤ n ∧ (∀ i y, i < j → s[i]? = some y → y ≤ x) ∧ Below w.heap.size w wr
end Go.Proofs.Ytidmfcamlgeipaa.Sha

/-
  The one in the middle: one of them, no more below it, above it, than half, in whatever order they come. No conditions.
-/
namespace Go.Proofs.Ytidmfcamlgeipaa.Sha
open Go Go.RowKit
def MiI (l : List Nat) (K n : Nat) (w1 : World) (v7 v8 v9 v10 : Value) (wr : World) : Prop :=
  ∃ (k bl ab : Nat) (is : Bool), v10 = .int .i64 (k : Int) ∧ v7 = .int .i64 (bl : Int) ∧ v8 = .int .i64 (ab : Int) ∧ v9 = .bool is ∧ k ≤ n ∧ bl = (l.take k).countP (fun x => decide (x < K)) ∧ ab = (l.take k).countP (fun x => decide (K < x)) ∧ is = (l.take k).any (fun x => decide (x = K)) ∧ w1 = wr
theorem take_snoc {l : List Nat} {k x : Nat} (h : l[k]? = some x) : l.take (k + 1) = l.take k ++ [x] := by
  obtain ⟨h1, rfl⟩ := List.getElem?_eq_some_iff.1 h
  exact List.take_succ_eq_append_getElem h1
theorem cnt_snoc (p : Nat → Bool) {l : List Nat} {k x : Nat} (h : l[k]? = some x) : (l.take (k + 1)).countP p = (l.take k).countP p + if p x then 1 else 0 := by
  rw [take_snoc h, List.countP_append, List.countP_singleton]
theorem any_snoc (p : Nat → Bool) {l : List Nat} {k x : Nat} (h : l[k]? = some x) : (l.take (k + 1)).any p = ((l.take k).any p || p x) := by
  rw [take_snoc h, List.any_append]
  simp
set_option maxHeartbeats 4000000 in
set_option maxRecDepth 100000 in
theorem pastmid_any (l : List Nat) (v : Value) (y : Int) (w : World) (hl : RwAt 1 w v (l.map u32C)) (gl : l.length ≤ 9223372036854775807) (hy : -9223372036854775808 ≤ y ∧ y ≤ 9223372036854775807) :
    Calls Try.prog 3 #[v, .int .i64 y] w fun e w' => e = .returned (.bool true) ∧ Below w.heap.size w w' := by
  obtain ⟨i0, hi, hz0, hz1, hz2⟩ := info_parts info_u32
  obtain ⟨sp, cap, rfl⟩ := hl.shape
  rw [List.length_map] at hl ⊢
  obtain ⟨n, hn⟩ : ∃ n, n = l.length := ⟨_, rfl⟩
  rw [← hn] at hl gl ⊢
  have RL := Lib.hid hl
  have NL := Lib.hid hn
  have qcap : n ≤ cap := hl.len.2
  have HY := Lib.hid hy
  clear hl hn hy
  go_enter Try.func3, Try.ntmps3
  by_cases h1 : (n : Int) = 0
  · go_wp2_with (go_at_call 5; refine (psfirst_any _).mono ?_; rintro e w1 ⟨rfl, hb⟩; have B1 := Lib.hid hb; clear hb)
    go_ret
    exact ⟨rfl, B1.out⟩
  by_cases h2 : (11 : Int) < (n : Int)
  · go_wp2_with (go_at_call 5; refine (psfirst_any _).mono ?_; rintro e w1 ⟨rfl, hb⟩; have B1 := Lib.hid hb; clear hb)
    go_ret
    exact ⟨rfl, B1.out⟩
  have h3 : ((n : Int) == 0 || decide ((11 : Int) < (n : Int))) = false := by
    rw [Bool.or_eq_false_iff]
    exact ⟨beq_false_of_ne h1, decide_eq_false h2⟩
  obtain ⟨K, hK⟩ : ∃ K, K = medN l := ⟨_, rfl⟩
  have MID : Hid (K ∈ l ∧ l.countP (fun x => decide (x < K)) ≤ n / 2 ∧ l.countP (fun x => decide (K < x)) ≤ (n - 1) / 2) := by
    show _ ∧ _ ∧ _
    rw [hK, NL.out]
    exact medN_mid (by rw [← NL.out]; omega) (by rw [← NL.out]; omega)
  have HM1 : Hid (∀ U, Below w.heap.size w U → Calls Try.prog 6 #[.slice sp n cap] U fun e w' => e = .returned (.int .u32 (K : Int)) ∧ Below U.heap.size U w') := fun U hU => by
    rw [hK]
    exact psmed_any l _ U (RL.out.below hU) (by rw [← NL.out]; omega)
  have KM : Hid (medN l = K) := hK.symm
  clear hK
  go_wp2_with (first | (go_at_call 5; refine (psfirst_any _).mono ?_; rintro e w1 ⟨rfl, hb⟩; have B1 := Lib.hid hb; clear hb) | (go_at_call 6; refine (HM1.out _ B1.out).mono ?_; rintro e w2 ⟨rfl, hb⟩; have B2 := Lib.hid (B1.out.trans (hb.mono B1.out.size)); clear hb))
  clear HM1 B1
  go_loopw [7, 8, 9, 10] (fun a b c d wr => MiI l K n w2 a b c d wr) (fun _ _ _ i _ => n - (intOf i).toNat)
  case atStart => exact ⟨0, 0, 0, false, rfl, rfl, rfl, rfl, Nat.zero_le _, rfl, rfl, rfl, rfl⟩
  case round =>
    obtain ⟨k, bl, ab, is, rfl, rfl, rfl, rfl, hk, hbl, hab, his, rfl⟩ := hrel
    have BL := Lib.hid hbl
    have AB := Lib.hid hab
    have IS := Lib.hid his
    have bs : bl ≤ 11 := by
      have := (List.countP_le_length (p := fun x => decide (x < K)) (l := l.take k))
      rw [← hbl, List.length_take] at this
      omega
    have abs : ab ≤ 11 := by
      have := (List.countP_le_length (p := fun x => decide (K < x)) (l := l.take k))
      rw [← hab, List.length_take] at this
      omega
    clear hbl hab his
    by_cases hlt : (k : Int) < (n : Int)
    · obtain ⟨b, o, hsp, hg⟩ := (RL.out.below B2.out).get (by omega)
      obtain rfl := hsp
      have hkl : k < l.length := by rw [← NL.out]; omega
      obtain ⟨x, hx⟩ : ∃ x, l[k]? = some x := ⟨_, List.getElem?_eq_getElem hkl⟩
      have cx := u32_cell (hg k (u32C x) (by rw [List.getElem?_map, hx]; rfl))
      have SX := Lib.hid hx
      have p0 : 0 ≤ (k : Int) := by omega
      clear hg hx hkl
      have fin : ∀ (bl2 ab2 : Nat) (is2 : Bool), bl2 = bl + (if x < K then 1 else 0) → ab2 = ab + (if K < x then 1 else 0) → is2 = (is || decide (x = K)) → MiI l K n w2 (.int .i64 (bl2 : Int)) (.int .i64 (ab2 : Int)) (.bool is2) (.int .i64 ((k : Int) + 1)) w2 := fun bl2 ab2 is2 e1 e2 e3 => by
        refine ⟨k + 1, bl2, ab2, is2, by go_num, rfl, rfl, rfl, by omega, ?_, ?_, ?_, rfl⟩
        · rw [cnt_snoc _ SX.out, e1, BL.out]; simp
        · rw [cnt_snoc _ SX.out, e2, AB.out]; simp
        · rw [any_snoc _ SX.out, e3, IS.out]
      have FIN := Lib.hid fin
      clear fin
      rcases Nat.lt_trichotomy x K with hc | hc | hc
      · have c1 : (x : Int) < (K : Int) := by omega
        have c2 : ¬ (K : Int) < (x : Int) := by omega
        have c3 : ¬ (x : Int) = (K : Int) := by omega
        cases is
        all_goals (go_wp2_with fail; go_roundw)
        all_goals first | exact FIN.out (bl + 1) ab _ (by split <;> omega) (by split <;> omega) (by rw [Bool.eq_iff_iff]; simp <;> omega) | (simp [intOf]; omega)
      · have c1 : ¬ (x : Int) < (K : Int) := by omega
        have c2 : ¬ (K : Int) < (x : Int) := by omega
        have c3 : (x : Int) = (K : Int) := by omega
        cases is
        all_goals (go_wp2_with fail; go_roundw)
        all_goals first | exact FIN.out bl ab _ (by split <;> omega) (by split <;> omega) (by rw [Bool.eq_iff_iff]; simp <;> omega) | (simp [intOf]; omega)
      · have c1 : ¬ (x : Int) < (K : Int) := by omega
        have c2 : (K : Int) < (x : Int) := by omega
        have c3 : ¬ (x : Int) = (K : Int) := by omega
        cases is
        all_goals (go_wp2_with fail; go_roundw)
        all_goals first | exact FIN.out bl (ab + 1) _ (by split <;> omega) (by split <;> omega) (by rw [Bool.eq_iff_iff]; simp <;> omega) | (simp [intOf]; omega)
    · obtain rfl : n = k := by omega
      have ek : l.take n = l := List.take_of_length_le (by rw [← NL.out]; exact Nat.le_refl _)
      rw [ek] at BL AB IS
      obtain rfl : is = true := by
        rw [IS.out, List.any_eq_true]
        exact ⟨K, MID.out.1, by simp⟩
      have LB : Hid ((bl : Int) ≤ (n : Int) / 2) := by have := MID.out.2.1; rw [← BL.out] at this; show _ ≤ _; omega
      have LA : Hid ((ab : Int) ≤ ((n : Int) - 1) / 2) := by have := MID.out.2.2; rw [← AB.out] at this; show _ ≤ _; omega
      clear BL AB IS MID ek
      obtain ⟨q, hq, hq2⟩ := numb_nat y n (by omega)
      have HN : Hid (∀ W, Calls Try.prog 7 #[.int .i64 y, .int .i64 (n : Int)] W fun e w' => e = .returned (.int .i64 (q : Int)) ∧ W = w') := fun W => by rw [← hq]; exact numb_any y (n : Int) (by omega) (by omega) HY.out W
      have qn : q ≤ n := by omega
      have qc : q ≤ cap := by omega
      obtain ⟨vd, VD⟩ : ∃ vd, Hid (vd = sliced sp q n cap 1) := ⟨_, rfl⟩
      obtain ⟨vt, VT⟩ : ∃ vt, Hid (vt = sliced sp 0 q cap 1) := ⟨_, rfl⟩
      have RD : Hid (RwAt 1 w vd ((l.drop q).map u32C)) := by
        have h := RwAt.cut RL.out q n qn (Nat.le_refl _)
        rw [List.take_of_length_le (by rw [List.length_map, NL.out]; exact Nat.le_refl _), ← List.map_drop] at h
        rw [VD.out]
        exact h
      have RT : Hid (RwAt 1 w vt ((l.take q).map u32C)) := by
        have h := RwAt.cut RL.out 0 q (Nat.zero_le _) qn
        rw [List.drop_zero, ← List.map_take] at h
        rw [VT.out]
        exact h
      have DL : Hid (((l.drop q).map u32C).length + ((l.take q).map u32C).length ≤ 100) := by
        show _ ≤ _
        rw [List.length_map, List.length_map, List.length_drop, List.length_take, ← NL.out]
        omega
      have HA : Hid (∀ U, Below w2.heap.size w2 U → Calls Try.prog 8 #[vd] U fun e w' => ∃ v', e = .returned v' ∧ RwOwn 1 24 w2.heap.size w' v' ((l.drop q).map u32C) ∧ Below U.heap.size U w') := fun U hU => by
        refine (rhalves_any (l.drop q) _ U (RD.out.below (B2.out.trans (hU.mono B2.out.size))) (by rw [List.length_drop, ← NL.out]; omega)).mono ?_
        rintro e w' ⟨v', rfl, h1, h2⟩
        exact ⟨v', rfl, RwOwn.lower h1 hU.size, h2⟩
      have HE : Hid (∀ U v, RwAt 1 U v ((l.drop q).map u32C ++ (l.take q).map u32C) → Calls Try.prog 6 #[v] U fun e w' => e = .returned (.int .u32 (K : Int)) ∧ Below U.heap.size U w') := fun U v hv => by
        rw [← List.map_append] at hv
        have h := psmed_any (l.drop q ++ l.take q) v U hv (by rw [List.length_append, List.length_drop, List.length_take, ← NL.out]; omega)
        have hp : (l.drop q ++ l.take q).Perm l := by
          have := List.perm_append_comm (l₁ := l.drop q) (l₂ := l.take q)
          rwa [List.take_append_drop] at this
        rw [medN_congr hp (by rw [List.length_append, List.length_drop, List.length_take, ← NL.out]; omega), KM.out] at h
        exact h
      have n1 : 0 ≤ (n : Int) - 1 := by omega
      clear hq hq2 RD RL HY
      go_upto_region 19 with (go_at_call 7; refine (HN.out _).mono ?_; rintro e wz ⟨rfl, rfl⟩)
      clear HN
      refine wp_region_held_drew (S := (fun w' => Below w2.heap.size w2 w')) (by kernel_rfl) (Below.drew (Below.refl _ _)) (fun hHeld => ?_)
      generalize hwd : w2.drew = wd at  hHeld ⊢
      clear hwd
      refine held_take (i := 0) (v := (.slice sp n cap)) rfl (by kernel_rfl) (by kernel_rfl) (by kernel_rfl) (fun _ _ _ h => h) (Or.inl ⟨by rfl, fun w' _ => by kernel_rfl⟩) hHeld ?_
      go_frame
      refine held_take (i := 1) (v := (.int .i64 (q : Int))) rfl (by kernel_rfl) (by kernel_rfl) (by kernel_rfl) (fun _ _ _ h => h) (Or.inl ⟨by rfl, fun w' _ => by kernel_rfl⟩) hHeld ?_
      go_frame
      refine held_take (i := 2) (v := vd) rfl (by kernel_rfl) (by kernel_rfl) (by kernel_rfl) (fun _ _ _ h => h) (yieldsIf_cut_l (by rfl) 22 (.tmp 62) (.tmp 63) rfl 24 Try.underlying22 (by kernel_rfl) sp n cap q rfl rfl qn vd VD.out.symm) hHeld ?_
      go_frame
      refine held_take (i := 4) (v := (.slice sp n cap)) rfl (by kernel_rfl) (by kernel_rfl) (by kernel_rfl) (fun _ _ _ h => h) (Or.inl ⟨by rfl, fun w' _ => by kernel_rfl⟩) hHeld ?_
      go_frame
      refine held_take (i := 5) (v := (.int .i64 (q : Int))) rfl (by kernel_rfl) (by kernel_rfl) (by kernel_rfl) (fun _ _ _ h => h) (Or.inl ⟨by rfl, fun w' _ => by kernel_rfl⟩) hHeld ?_
      go_frame
      refine held_take (i := 6) (v := vt) rfl (by kernel_rfl) (by kernel_rfl) (by kernel_rfl) (fun _ _ _ h => h) (yieldsIf_cut_h (by rfl) 22 (.tmp 66) (.tmp 67) rfl 24 Try.underlying22 (by kernel_rfl) sp n cap q rfl rfl qc vt VT.out.symm) hHeld ?_
      go_frame
      refine wpAnyH_ready (rs := [3]) (by kernel_rfl) (by simp) (held_cons rfl (fun K hK => ?_) AllReadyH.nil)
      go_simp
      refine (HA.out _ hHeld).mono ?_
      rintro e v1 ⟨vm, rfl, hm, bb⟩
      have HM := Lib.hid hm
      clear hm
      have hv1 := hHeld.trans (bb.mono hHeld.size)
      clear bb hHeld
      go_wp2_with fail
      refine hK.out _ _ hv1 (fun hHeld => ?_)
      clear hK K hv1
      refine wpAnyH_ready (rs := [7]) (by kernel_rfl) (by simp) (held_cons rfl (fun K hK => ?_) AllReadyH.nil)
      refine wp_append_rw v1 (.tmp 65) (.tmp 68) 22 rfl w2.heap.size 24 i0 (.int .u32 0) 1 4 Try.underlying22 hi hz0 hz1 hz2 rfl (by decide) vm ((l.drop q).map u32C) rfl HM.out _ ((l.take q).map u32C) rfl (RT.out.below (B2.out.trans (hHeld.mono B2.out.size))) (u32s_one (l.take q)) (by have := DL.out; omega) (by have := DL.out; unfold maxLen; omega) hHeld.size ?_
      intro vn v2 q1 q2
      have HQ := Lib.hid q1
      have hv2 : Below w2.heap.size w2 v2 := hHeld.grown q2 hHeld.size (fun q hq => (HM.out.1.lt q hq).1)
      clear q1 q2 hHeld HM
      go_frame
      refine hK.out _ _ hv2 (fun hHeld => ?_)
      clear hK hv2
      refine held_take (i := 8) (v := vn) rfl (by kernel_rfl) (by kernel_rfl) (by kernel_rfl) (fun _ _ _ h => h) (Or.inl ⟨by rfl, fun w' _ => by kernel_rfl⟩) hHeld ?_
      go_frame
      refine wpAnyH_done (by kernel_rfl) ?_ _
      obtain ⟨w5, h5⟩ : ∃ w5, w5 = v2 := ⟨_, rfl⟩
      rw [← h5] at HQ hHeld ⊢
      clear h5
      have B5 := Lib.hid (B2.out.trans (hHeld.mono B2.out.size))
      have HE5 := Lib.hid (HE.out _ _ (HQ.out.at (by decide)))
      have lb := LB.out
      have la := LA.out
      clear hHeld HQ
      go_wp2_with (go_at_call 6; refine HE5.out.mono ?_; rintro e w6 ⟨rfl, hb⟩; have B6 := Lib.hid (B5.out.trans (hb.mono B5.out.size)); clear hb)
      go_ret
      exact ⟨rfl, B6.out⟩
end Go.Proofs.Ytidmfcamlgeipaa.Sha

/-
  What is more than the last eleven counts for nothing. No conditions.
-/
namespace Go.Proofs.Ytidmfcamlgeipaa.Sha
open Go Go.RowKit
set_option maxHeartbeats 4000000 in
set_option maxRecDepth 100000 in
theorem pastlast_any (la lb : List Nat) (va vb : Value) (w : World) (ha : RwAt 1 w va (la.map u32C)) (hb : RwAt 1 w vb (lb.map u32C)) (ga : la.length ≤ 9223372036854775807) (gb : lb.length ≤ 9223372036854775807) :
    Calls Try.prog 4 #[va, vb] w fun e w' => e = .returned (.bool true) ∧ Below w.heap.size w w' := by
  obtain ⟨i0, hi, hz0, hz1, hz2⟩ := info_parts info_u32
  obtain ⟨sa, ca, rfl⟩ := ha.shape
  obtain ⟨sb, cb, rfl⟩ := hb.shape
  rw [List.length_map] at ha hb ⊢
  rw [List.length_map]
  obtain ⟨na, hna⟩ : ∃ na, na = la.length := ⟨_, rfl⟩
  obtain ⟨nb, hnb⟩ : ∃ nb, nb = lb.length := ⟨_, rfl⟩
  rw [← hna] at ha ga ⊢
  rw [← hnb] at hb gb ⊢
  have RA := Lib.hid ha
  have RB := Lib.hid hb
  have NA := Lib.hid hna
  have NB := Lib.hid hnb
  clear ha hb hna hnb
  go_enter Try.func4, Try.ntmps4
  by_cases h1 : (30 : Int) < (na : Int)
  · go_wp2_with (go_at_call 5; refine (psfirst_any _).mono ?_; rintro e w1 ⟨rfl, hb⟩; have B1 := Lib.hid hb; clear hb)
    go_ret
    exact ⟨rfl, B1.out⟩
  by_cases h2 : (nb : Int) < 11
  · go_wp2_with (go_at_call 5; refine (psfirst_any _).mono ?_; rintro e w1 ⟨rfl, hb⟩; have B1 := Lib.hid hb; clear hb)
    go_ret
    exact ⟨rfl, B1.out⟩
  by_cases h3 : (30 : Int) < (nb : Int)
  · go_wp2_with (go_at_call 5; refine (psfirst_any _).mono ?_; rintro e w1 ⟨rfl, hb⟩; have B1 := Lib.hid hb; clear hb)
    go_ret
    exact ⟨rfl, B1.out⟩
  go_upto_region 6 with (go_at_call 5; refine (psfirst_any _).mono ?_; rintro e w1 ⟨rfl, hb⟩; have B1 := Lib.hid hb; clear hb)
  obtain ⟨d, hd⟩ : ∃ d, d = nb - 11 := ⟨_, rfl⟩
  have dn : d ≤ nb := by omega
  have IW : Hid (IntKind.i64.wrap ((nb : Int) - 11) = (d : Int)) := by
    show _ = _
    rw [IntWalk.i64_in _ (by omega)]
    omega
  obtain ⟨vd, VD⟩ : ∃ vd, Hid (vd = sliced sb d nb cb 1) := ⟨_, rfl⟩
  have RD : Hid (RwAt 1 w vd ((lb.drop d).map u32C)) := by
    have h := RwAt.cut RB.out d nb dn (Nat.le_refl _)
    rw [List.take_of_length_le (by rw [List.length_map, NB.out]; exact Nat.le_refl _), ← List.map_drop] at h
    rw [VD.out]
    exact h
  have DL : Hid ((la.map u32C).length + (lb.map u32C).length ≤ 100) := by
    show _ ≤ _
    rw [List.length_map, List.length_map, ← NA.out, ← NB.out]
    omega
  obtain ⟨K, hK⟩ : ∃ K, K = medN (lb.drop d) := ⟨_, rfl⟩
  have EK : Hid (medN (la ++ lb) = K) := by
    show _ = _
    rw [hK, hd, NB.out]
    exact medN_last la (by rw [← NB.out]; omega)
  have HA : Hid (∀ U, Below w1.heap.size w1 U → Calls Try.prog 8 #[.slice sa na ca] U fun e w' => ∃ v', e = .returned v' ∧ RwOwn 1 24 w1.heap.size w' v' (la.map u32C) ∧ Below U.heap.size U w') := fun U hU => by
    refine (rhalves_any la _ U (RA.out.below (B1.out.trans (hU.mono B1.out.size))) (by rw [← NA.out]; omega)).mono ?_
    rintro e w' ⟨v', rfl, h1, h2⟩
    exact ⟨v', rfl, RwOwn.lower h1 hU.size, h2⟩
  have HE : Hid (∀ U v, RwAt 1 U v (la.map u32C ++ lb.map u32C) → Calls Try.prog 6 #[v] U fun e w' => e = .returned (.int .u32 (K : Int)) ∧ Below U.heap.size U w') := fun U v hv => by
    rw [← List.map_append] at hv
    have h := psmed_any (la ++ lb) v U hv (by rw [List.length_append, ← NA.out, ← NB.out]; omega)
    rw [EK.out] at h
    exact h
  have HD : Hid (∀ U, Below w1.heap.size w1 U → Calls Try.prog 6 #[vd] U fun e w' => e = .returned (.int .u32 (K : Int)) ∧ Below U.heap.size U w') := fun U hU => by
    rw [hK]
    exact psmed_any (lb.drop d) vd U (RD.out.below (B1.out.trans (hU.mono B1.out.size))) (by rw [List.length_drop, ← NB.out]; omega)
  clear hK hd RD EK RA
  refine wp_region_held_drew (S := (fun w' => Below w1.heap.size w1 w')) (by kernel_rfl) (Below.drew (Below.refl _ _)) (fun hHeld => ?_)
  generalize hwd : w1.drew = wd at  hHeld ⊢
  clear hwd
  refine held_take (i := 0) (v := (.bool true)) rfl (by kernel_rfl) (by kernel_rfl) (by kernel_rfl) (fun _ _ _ h => h) (Or.inl ⟨by rfl, fun w' _ => by kernel_rfl⟩) hHeld ?_
  go_frame
  refine held_take (i := 1) (v := (.bool true)) rfl (by kernel_rfl) (by kernel_rfl) (by kernel_rfl) (fun _ _ _ h => h) (Or.inl ⟨by rfl, fun w' _ => by kernel_rfl⟩) hHeld ?_
  go_frame
  refine held_take (i := 2) (v := (.slice sa na ca)) rfl (by kernel_rfl) (by kernel_rfl) (by kernel_rfl) (fun _ _ _ h => h) (Or.inl ⟨by rfl, fun w' _ => by kernel_rfl⟩) hHeld ?_
  go_frame
  refine held_take (i := 4) (v := (.slice sb nb cb)) rfl (by kernel_rfl) (by kernel_rfl) (by kernel_rfl) (fun _ _ _ h => h) (Or.inl ⟨by rfl, fun w' _ => by kernel_rfl⟩) hHeld ?_
  go_frame
  refine held_take (i := 7) (v := (.slice sb nb cb)) rfl (by kernel_rfl) (by kernel_rfl) (by kernel_rfl) (fun _ _ _ h => h) (Or.inl ⟨by rfl, fun w' _ => by kernel_rfl⟩) hHeld ?_
  go_frame
  refine held_take (i := 8) (v := (.slice sb nb cb)) rfl (by kernel_rfl) (by kernel_rfl) (by kernel_rfl) (fun _ _ _ h => h) (Or.inl ⟨by rfl, fun w' _ => by kernel_rfl⟩) hHeld ?_
  go_frame
  refine held_take (i := 9) (v := (.int .i64 (nb : Int))) rfl (by kernel_rfl) (by kernel_rfl) (by kernel_rfl) (fun _ _ _ h => h) (Or.inl ⟨by rfl, fun w' _ => by go_simp⟩) hHeld ?_
  go_frame
  refine held_take (i := 10) (v := (.int .i64 (d : Int))) rfl (by kernel_rfl) (by kernel_rfl) (by kernel_rfl) (fun _ _ _ h => h) (Or.inl ⟨by rfl, fun w' _ => by go_simp; rw [IW.out]⟩) hHeld ?_
  go_frame
  refine held_take (i := 11) (v := vd) rfl (by kernel_rfl) (by kernel_rfl) (by kernel_rfl) (fun _ _ _ h => h) (yieldsIf_cut_l (by rfl) 22 (.tmp 30) (.tmp 33) rfl 24 Try.underlying22 (by kernel_rfl) sb nb cb d rfl rfl dn vd VD.out.symm) hHeld ?_
  go_frame
  refine wpAnyH_ready (rs := [3]) (by kernel_rfl) (by simp) (held_cons rfl (fun K hK => ?_) AllReadyH.nil)
  rw [if_pos (by rfl)]
  go_simp
  refine (HA.out _ hHeld).mono ?_
  rintro e v1 ⟨vm, rfl, hm, bb⟩
  have HM := Lib.hid hm
  clear hm
  have hv1 := hHeld.trans (bb.mono hHeld.size)
  clear bb hHeld
  go_wp2_with fail
  refine hK.out _ _ hv1 (fun hHeld => ?_)
  clear hK K hv1
  refine wpAnyH_ready (rs := [5]) (by kernel_rfl) (by simp) (held_cons rfl (fun K hK => ?_) AllReadyH.nil)
  rw [if_pos (by rfl)]
  refine wp_append_rw v1 (.tmp 26) (.tmp 27) 22 rfl w1.heap.size 24 i0 (.int .u32 0) 1 4 Try.underlying22 hi hz0 hz1 hz2 rfl (by decide) vm (la.map u32C) rfl HM.out _ (lb.map u32C) rfl (RB.out.below (B1.out.trans (hHeld.mono B1.out.size))) (u32s_one lb) (by have := DL.out; omega) (by have := DL.out; unfold maxLen; omega) hHeld.size ?_
  intro vn v2 q1 q2
  have HQ := Lib.hid q1
  have hv2 : Below w1.heap.size w1 v2 := hHeld.grown q2 hHeld.size (fun q hq => (HM.out.1.lt q hq).1)
  clear q1 q2 hHeld HM
  go_frame
  refine hK.out _ _ hv2 (fun hHeld => ?_)
  clear hK K hv2
  refine wpAnyH_ready (rs := [6]) (by kernel_rfl) (by simp) (held_cons rfl (fun K hK => ?_) AllReadyH.nil)
  rw [if_pos (by rfl)]
  go_simp
  refine (HE.out _ _ (HQ.out.at (by decide))).mono ?_
  rintro e v3 ⟨rfl, bb⟩
  have HQ := Lib.hid (HQ.out.keep bb)
  have hv3 := hHeld.trans (bb.mono hHeld.size)
  clear bb hHeld
  go_wp2_with fail
  refine hK.out _ _ hv3 (fun hHeld => ?_)
  clear hK K hv3
  refine wpAnyH_ready (rs := [12]) (by kernel_rfl) (by simp) (held_cons rfl (fun K hK => ?_) AllReadyH.nil)
  rw [if_pos (by rfl)]
  go_simp
  refine (HD.out _ hHeld).mono ?_
  rintro e v4 ⟨rfl, bb⟩
  have HQ := Lib.hid (HQ.out.keep bb)
  have hv4 := hHeld.trans (bb.mono hHeld.size)
  clear bb hHeld
  go_wp2_with fail
  refine hK.out _ _ hv4 (fun hHeld => ?_)
  clear hK K hv4
  refine held_take (i := 13) (v := (.bool true)) rfl (by kernel_rfl) (by kernel_rfl) (by kernel_rfl) (fun _ _ _ h => h) (Or.inl ⟨by rfl, fun w' _ => by go_simp⟩) hHeld ?_
  go_frame
  refine held_take (i := 14) (v := (.bool true)) rfl (by kernel_rfl) (by kernel_rfl) (by kernel_rfl) (fun _ _ _ h => h) (Or.inl ⟨by rfl, fun w' _ => by go_simp⟩) hHeld ?_
  go_frame
  refine held_take (i := 15) (v := (.bool true)) rfl (by kernel_rfl) (by kernel_rfl) (by kernel_rfl) (fun _ _ _ h => h) (Or.inl ⟨by rfl, fun w' _ => by kernel_rfl⟩) hHeld ?_
  go_frame
  refine wpAnyH_done (by kernel_rfl) ?_ _
  have BE := Lib.hid (B1.out.trans (hHeld.mono B1.out.size))
  clear hHeld
  go_wp2_with fail
  go_ret
  exact ⟨rfl, BE.out⟩
end Go.Proofs.Ytidmfcamlgeipaa.Sha
