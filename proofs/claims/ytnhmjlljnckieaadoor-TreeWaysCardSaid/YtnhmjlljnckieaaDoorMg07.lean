/-
  Texts of this proof joined into one file: CnMap, CnBuilt, CnSet, CnSpend, RefTree, RefTree2, PathM, RefSmall. What each holds, and under which conditions, its own first sentence tells.
-/
import Derived.DeepKeys4
import Derived.Maps.RangeRun
import Derived.Test.YtnhmjlljnckieaaDoorMg06
import Derived.Test.YtnhmjlljnckieaaDoorMg05
import Derived.Test.YtnhmjlljnckieaaDoorMg03
import Derived.Test.YtnhmjlljnckieaaDoorMg01
/-
  A map of coins by their places: what is found, put, taken away, counted, ranged over. Conditions: places and coins as the model has them.
-/
namespace Go.Proofs.YtnhmjlljnckieaaDoor.Sha
open Go Go.RowKit Go.MapKept
open Go.ChangeMaps (setBlock heap_setBlock_same heap_setBlock_other)
theorem cn_laidOut : laidOutB Tryd.prog = true := by kernel_rfl
theorem cm_pt_row : 88 < Tryd.prog.types.size := of_decide_eq_true (by kernel_rfl)
theorem types_two : 2 ≤ Tryd.prog.types.size := of_decide_eq_true (by kernel_rfl)
theorem pt_keyAt : Tryd.prog.keyTypeAt 3 88 = true := by kernel_rfl
theorem cm_pt_key : Tryd.prog.keyType 88 = true := by kernel_rfl
theorem cm_pt_wide : (match Tryd.prog.underlying 88 with | some (.array _ _) | some (.struct _) => true | _ => false) = true := by kernel_rfl
set_option maxRecDepth 100000 in
theorem cm_pt_law : WideMaps.KeyLaw Tryd.prog 88 := deep_law_laid cn_laidOut (m := 3) (by omega) cm_pt_row pt_keyAt cm_pt_wide
theorem mapM_some {α β : Type} {f : α → Option β} : ∀ (L : List α), (∀ i ∈ L, ∃ y, f i = some y) → ∃ ys, L.mapM f = some ys
  | [], _ => ⟨[], rfl⟩
  | a :: L, h => by
    obtain ⟨y, hy⟩ := h a List.mem_cons_self
    obtain ⟨ys, hys⟩ := mapM_some L (fun i hi => h i (List.mem_cons_of_mem _ hi))
    exact ⟨y :: ys, by simp [List.mapM_cons, hy, hys]⟩
theorem cm_lits_u8 (D : Nat) (x : UInt8) : Tryd.prog.keyLits (D + 1) 5 [bV x] = some [.int .u8 (bv x)] := by
  have hw : (Lit.int .u8 (bv x)).wf = true := by
    have := bv_bd x
    simp [Lit.wf, IntKind.min, IntKind.max, IntKind.signed, IntKind.bits]
    omega
  simp [Program.keyLits, Tryd.underlying5, bV, hw]
theorem keyLits_arr {P : Program} {D n : Nat} {e t : TypeId} (hu : P.underlying t = some (.array n e)) (cs : List Value) (hl : cs.length = P.cellsOf t) :
    P.keyLits (D + 1) t cs = ((List.range n).mapM fun i => P.keyLits D e ((cs.drop (i * P.cellsOf e)).take (P.cellsOf e))).map List.flatten := by
  conv => lhs; unfold Program.keyLits
  simp only [hu]
  rw [if_pos hl]
theorem keyLits_struct {P : Program} {D : Nat} {fs : Array Field} {t : TypeId} (hu : P.underlying t = some (.struct fs)) (cs : List Value) (hl : cs.length = P.cellsOf t) (hn : fs.all (·.name != "_") = true) :
    P.keyLits (D + 1) t cs = (fs.toList.mapM fun f => P.keyLits D f.type ((cs.drop f.offset).take (P.cellsOf f.type))).map List.flatten := by
  conv => lhs; unfold Program.keyLits
  simp only [hu]
  rw [if_pos ⟨hl, hn⟩]
theorem cm_lits_hash (D : Nat) (h : List UInt8) (hh : h.length = 32) : ∃ l, Tryd.prog.keyLits (D + 2) 30 (h.map bV) = some l := by
  have c1 : Tryd.prog.cellsOf 30 = 32 := by kernel_rfl
  have c2 : Tryd.prog.cellsOf 5 = 1 := by kernel_rfl
  obtain ⟨ys, hys⟩ := mapM_some (f := fun i => Tryd.prog.keyLits (D + 1) 5 (((h.map bV).drop (i * 1)).take 1)) (List.range 32) (fun i hi => by
    have hi2 : i < h.length := by rw [hh]; exact List.mem_range.1 hi
    have e : ((h.map bV).drop (i * 1)).take 1 = [bV (h[i]'hi2)] := by
      rw [Nat.mul_one, ← List.map_drop, List.drop_eq_getElem_cons hi2]
      rfl
    exact ⟨_, by show Tryd.prog.keyLits (D + 1) _ _ = _; rw [e]; exact cm_lits_u8 D _⟩)
  refine ⟨ys.flatten, ?_⟩
  rw [keyLits_arr Tryd.underlying30 _ (by rw [List.length_map, hh, c1]), c2, hys]
  rfl
theorem lits_num (D n : Nat) (hn : n ≤ 4294967295) : Tryd.prog.keyLits (D + 1) 28 [nV n] = some [.int .u32 (n : Int)] := by
  have hw : (Lit.int .u32 (n : Int)).wf = true := by
    simp [Lit.wf, IntKind.min, IntKind.max, IntKind.signed, IntKind.bits]
    omega
  simp [Program.keyLits, Tryd.underlying28, nV, hw]
theorem lits_pt (D : Nat) (p : TPt) (hp : PtOk p) : ∃ l, Tryd.prog.keyLits (D + 3) 88 (ptC p) = some l := by
  have c1 : Tryd.prog.cellsOf 30 = 32 := by kernel_rfl
  have c2 : Tryd.prog.cellsOf 28 = 1 := by kernel_rfl
  have c3 : Tryd.prog.cellsOf 88 = 33 := by kernel_rfl
  obtain ⟨la, hla⟩ := cm_lits_hash D p.h hp.1
  have hlb := lits_num (D + 1) p.n hp.2
  have hnm : (Tryd.prog.fieldsOf 88).all (·.name != "_") = true := by kernel_rfl
  have hf := pt_fields
  refine ⟨([la, [.int .u32 (p.n : Int)]] : List (List Lit)).flatten, ?_⟩
  have hm : (Tryd.prog.fieldsOf 88).toList.mapM (fun f => Tryd.prog.keyLits (D + 2) f.type (((ptC p).drop f.offset).take (Tryd.prog.cellsOf f.type))) = some [la, [.int .u32 (p.n : Int)]] := by
    generalize (Tryd.prog.fieldsOf 88).toList = fs at hf
    obtain ⟨f, f', rfl⟩ : ∃ f f', fs = [f, f'] := by
      have hl := congrArg List.length hf
      simp only [List.length_map, List.length_cons, List.length_nil] at hl
      obtain ⟨f, r, rfl⟩ := List.exists_cons_of_length_eq_add_one hl
      obtain ⟨f', r', rfl⟩ := List.exists_cons_of_length_eq_add_one (by simpa using hl)
      obtain rfl : r' = [] := List.eq_nil_of_length_eq_zero (by simpa using hl)
      exact ⟨f, f', rfl⟩
    simp only [List.map_cons, List.map_nil, List.cons.injEq, Prod.mk.injEq, and_true] at hf
    obtain ⟨⟨_, h2, h3⟩, _, h5, h6⟩ := hf
    have e1 : ((ptC p).drop 0).take 32 = p.h.map bV := by
      rw [List.drop_zero, ptC, ptL, List.take_append_of_le_length (by simp [hp.1]), List.take_of_length_le (by simp [hp.1])]
    have e2 : ((ptC p).drop 32).take 1 = [nV p.n] := by
      rw [ptC, ptL, List.drop_append_of_le_length (by simp [hp.1]), List.drop_of_length_le (by simp [hp.1])]
      rfl
    simp only [List.mapM_cons, List.mapM_nil, h2, h3, h5, h6, c1, c2, e1, e2, hla, hlb, Option.bind_eq_bind, Option.bind_some, Option.pure_def]
  rw [keyLits_struct pt_under _ (by rw [ptC_length hp, c3]) hnm, hm]
  rfl
theorem pt_keyOf (p : TPt) (hp : PtOk p) : ∃ l, keyOf Tryd.prog 88 (.agg (ptC p).toArray) = some l := by
  obtain ⟨m, hm⟩ : ∃ m, Tryd.prog.types.size = m + 2 := ⟨Tryd.prog.types.size - 2, by have := types_two; omega⟩
  obtain ⟨l, hl⟩ := lits_pt m p hp
  have hfo : Value.formed Tryd.prog 88 (.agg (ptC p).toArray) = true := by
    have c3 : Tryd.prog.cellsOf 88 = 33 := by kernel_rfl
    simp [Value.formed, pt_under, c3, ptC_length hp]
  refine ⟨.string (keyBytes l), ?_⟩
  have e : (Value.agg (ptC p).toArray).cells.toList = ptC p := by simp [Value.cells]
  simp only [keyOf, pt_under, cm_pt_key, hfo, Bool.and_self, if_true, e, hm, hl, Option.map_some]
/-- A permutation of a list's images is the image of a permutation. -/
theorem perm_map_ex {α β : Type} {f : α → β} : ∀ {l : List α} {m : List β}, (l.map f).Perm m → ∃ l', l.Perm l' ∧ m = l'.map f := by
  intro l m h
  generalize hk : l.map f = k at h
  induction h generalizing l with
  | nil => exact ⟨[], by rw [List.map_eq_nil_iff.1 hk], rfl⟩
  | cons x h ih =>
    cases l with
    | nil => simp at hk
    | cons a l =>
      rw [List.map_cons, List.cons.injEq] at hk
      obtain ⟨l', h1, h2⟩ := ih hk.2
      exact ⟨a :: l', h1.cons a, by rw [List.map_cons, hk.1, h2]⟩
  | swap x y r =>
    cases l with
    | nil => simp at hk
    | cons a l =>
      cases l with
      | nil => simp at hk
      | cons b l =>
        simp only [List.map_cons, List.cons.injEq] at hk
        exact ⟨b :: a :: l, List.Perm.swap _ _ _, by simp [hk.1, hk.2.1, hk.2.2]⟩
  | trans h1 h2 ih1 ih2 =>
    obtain ⟨l1, p1, e1⟩ := ih1 hk
    obtain ⟨l2, p2, e2⟩ := ih2 e1.symm
    exact ⟨l2, p1.trans p2, e2⟩
/-! The map. -/
def enE (x : TSp) : Value × Value := (.agg (ptC x.at_).toArray, .agg (mnL x.coin).toArray)
def kvE (e : MapEntry) : Value × Value := (e.key, e.val)
/-- Block b is a map of these coins. -/
def MapAt (w : World) (b : Nat) (l : List TSp) : Prop :=
  ∃ es clock, w.heap[b]? = some (.map es clock) ∧ Stamped es clock ∧ es.toList.map kvE = l.map enE ∧ ∀ x ∈ l, SpOk x
/-- A map's value: none, or a block. -/
def MapO (w : World) (m : Option Nat) (l : List TSp) : Prop :=
  match m with
  | none => l = []
  | some b => MapAt w b l
/-- What is at a place. -/
def getC (l : List TSp) (p : TPt) : Option TMn := (l.find? (fun x => decide (x.at_ = p))).map (·.coin)
def delC (l : List TSp) (p : TPt) : List TSp := l.filter (fun x => !decide (x.at_ = p))
def mnZ : TMn := ⟨0, List.replicate 32 0, 0, false⟩
theorem mnZ_ok : MnOk mnZ := ⟨rfl, by show 0 ≤ _; omega, by show _ ≤ (0 : Int); omega, by show (0 : Int) ≤ _; omega⟩
/-- A coin of zeros, at the place of zeros. -/
def spZ : TSp := ⟨⟨List.replicate 32 0, 0⟩, mnZ⟩
theorem spZ_ok : SpOk spZ := ⟨⟨rfl, Nat.zero_le _⟩, mnZ_ok⟩
section
variable {w : World} {b : Nat} {l : List TSp}
theorem enE_get {es : Array MapEntry} (h : es.toList.map kvE = l.map enE) {j : Nat} {e : MapEntry} (hj : es.toList[j]? = some e) : ∃ x, l[j]? = some x ∧ e.key = .agg (ptC x.at_).toArray ∧ e.val = .agg (mnL x.coin).toArray := by
  have h1 := congrArg (·[j]?) h
  simp only [List.getElem?_map, hj, Option.map_some] at h1
  cases hx : l[j]? with
  | none => simp [hx] at h1
  | some x =>
    rw [hx, Option.map_some, Option.some.injEq, kvE, enE, Prod.mk.injEq] at h1
    exact ⟨x, rfl, h1.1, h1.2⟩
theorem enE_mem {es : Array MapEntry} (h : es.toList.map kvE = l.map enE) {e : MapEntry} (he : e ∈ es.toList) : ∃ x ∈ l, e.key = .agg (ptC x.at_).toArray ∧ e.val = .agg (mnL x.coin).toArray := by
  obtain ⟨j, hj⟩ := List.getElem?_of_mem he
  obtain ⟨x, hx, h1⟩ := enE_get h hj
  exact ⟨x, List.mem_of_getElem? hx, h1⟩
theorem enE_mem' {es : Array MapEntry} (h : es.toList.map kvE = l.map enE) {x : TSp} (hx : x ∈ l) : ∃ e ∈ es.toList, e.key = .agg (ptC x.at_).toArray ∧ e.val = .agg (mnL x.coin).toArray := by
  have h1 : enE x ∈ es.toList.map kvE := by rw [h]; exact List.mem_map.2 ⟨x, hx, rfl⟩
  obtain ⟨e, he, h2⟩ := List.mem_map.1 h1
  rw [kvE, enE, Prod.mk.injEq] at h2
  exact ⟨e, he, h2.1, h2.2⟩
/-- No place has two coins. -/
theorem MapAt.apart (h : MapAt w b l) : l.Pairwise (fun x y => x.at_ ≠ y.at_) := by
  obtain ⟨es, clock, _, hs, he, _⟩ := h
  have h1 := ((stamped_iff es clock).1 hs).2.2
  have h2 : (es.toList.map kvE).Pairwise (fun p q => p.1 ≠ q.1) := by
    rw [List.pairwise_map]
    exact h1
  rw [he, List.pairwise_map] at h2
  exact h2.imp (fun {x y} hne e => hne (by show Value.agg _ = .agg _; rw [e]))
theorem MapAt.ok (h : MapAt w b l) : ∀ x ∈ l, SpOk x := by
  obtain ⟨_, _, _, _, _, ho⟩ := h
  exact ho
theorem MapAt.lt (h : MapAt w b l) : b < w.heap.size := by
  obtain ⟨_, _, hb, _⟩ := h
  exact (Array.getElem?_eq_some_iff.1 hb).1
theorem MapAt.kps {F : Nat → Prop} {w' : World} (h : MapAt w b l) (hk : Kps F w w') (hf : F b) : MapAt w' b l := by
  obtain ⟨es, clock, hb, h2⟩ := h
  exact ⟨es, clock, row_kps hb hk hf, h2⟩
theorem MapO.apart {m : Option Nat} (h : MapO w m l) : l.Pairwise (fun x y => x.at_ ≠ y.at_) := by
  cases m with
  | none => rw [show l = [] from h]; exact List.Pairwise.nil
  | some b => exact MapAt.apart h
theorem MapO.ok {m : Option Nat} (h : MapO w m l) : ∀ x ∈ l, SpOk x := by
  cases m with
  | none => rw [show l = [] from h]; simp
  | some b => exact MapAt.ok h
theorem MapO.kps {F : Nat → Prop} {w' : World} {m : Option Nat} (h : MapO w m l) (hk : Kps F w w') (hf : ∀ b, m = some b → F b) : MapO w' m l := by
  cases m with
  | none => exact h
  | some b => exact MapAt.kps h hk (hf b rfl)
theorem getC_none {p : TPt} (h : ∀ x ∈ l, x.at_ ≠ p) : getC l p = none := by
  unfold getC
  rw [List.find?_eq_none.2 (fun x hx => by simpa using h x hx)]
  rfl
theorem getC_ne {p : TPt} (h : getC l p = none) : ∀ x ∈ l, x.at_ ≠ p := by
  unfold getC at h
  rw [Option.map_eq_none_iff, List.find?_eq_none] at h
  exact fun x hx e => h x hx (by simpa using e)
theorem getC_some : ∀ {l : List TSp} {p : TPt} {j : Nat} {x : TSp}, l.Pairwise (fun x y => x.at_ ≠ y.at_) → l[j]? = some x → x.at_ = p → getC l p = some x.coin
  | y :: l, p, 0, x, _, hj, hp => by
    simp only [List.getElem?_cons_zero, Option.some.injEq] at hj
    subst hj
    simp [getC, hp]
  | y :: l, p, j + 1, x, ha, hj, hp => by
    obtain ⟨h1, h2⟩ := List.pairwise_cons.1 ha
    have hj' : l[j]? = some x := by simpa using hj
    have hne : ¬ y.at_ = p := fun e => h1 x (List.mem_of_getElem? hj') (by rw [e, hp])
    have := getC_some h2 hj' hp
    unfold getC at this ⊢
    rw [List.find?_cons_of_neg (by simpa using hne)]
    exact this
  | [], _, _, _, _, hj, _ => by simp at hj
theorem delC_idx : ∀ {l : List TSp} {p : TPt} {j : Nat} {x : TSp}, l.Pairwise (fun x y => x.at_ ≠ y.at_) → l[j]? = some x → x.at_ = p → l.eraseIdx j = delC l p
  | y :: l, p, 0, x, ha, hj, hp => by
    simp only [List.getElem?_cons_zero, Option.some.injEq] at hj
    subst hj
    obtain ⟨h1, h2⟩ := List.pairwise_cons.1 ha
    have : delC l p = l := List.filter_eq_self.2 (fun z hz => by simpa using fun e => h1 z hz (by rw [hp, e]))
    show l = (y :: l).filter _
    rw [List.filter_cons_of_neg (by simpa using hp)]
    exact this.symm
  | y :: l, p, j + 1, x, ha, hj, hp => by
    obtain ⟨h1, h2⟩ := List.pairwise_cons.1 ha
    have hj' : l[j]? = some x := by simpa using hj
    have hne : ¬ y.at_ = p := fun e => h1 x (List.mem_of_getElem? hj') (by rw [e, hp])
    have := delC_idx h2 hj' hp
    unfold delC at this ⊢
    rw [List.eraseIdx_cons_succ, this, List.filter_cons_of_pos (by simpa using hne)]
  | [], _, _, _, _, hj, _ => by simp at hj
theorem find_pt {es : Array MapEntry} (he : es.toList.map kvE = l.map enE) (ho : ∀ x ∈ l, SpOk x) (p : TPt) (hp : PtOk p) (W : World) :
    ((Instr.findKey 88 (.agg (ptC p).toArray) es.toList).run Tryd.prog W = .ok none W ∧ ∀ x ∈ l, x.at_ ≠ p) ∨
    ∃ j x, (Instr.findKey 88 (.agg (ptC p).toArray) es.toList).run Tryd.prog W = .ok (some (j, .agg (mnL x.coin).toArray)) W ∧ l[j]? = some x ∧ x.at_ = p := by
  obtain ⟨lx, hlx⟩ := pt_keyOf p hp
  rcases cm_pt_law.find W hlx es.toList (fun e hem => by
    obtain ⟨x, hx, hk, _⟩ := enE_mem he hem
    rw [hk]
    exact pt_keyOf _ (ho x hx).1) with ⟨h1, h2⟩ | ⟨j, e, h1, h2, h3⟩
  · refine .inl ⟨h1, fun x hx e => ?_⟩
    obtain ⟨en, hen, hk, _⟩ := enE_mem' he hx
    exact h2 en hen (by rw [hk, e])
  · obtain ⟨x, hx, hk, hv⟩ := enE_get he h2
    exact .inr ⟨j, x, by rw [h1, hv], hx, ptC_agg_inj (by rw [← hk, h3])⟩
theorem check_pt (em : Bool) (p : TPt) (hp : PtOk p) (W : World) : (Instr.checkKey em 10000 88 (.agg (ptC p).toArray)).run Tryd.prog W = .ok () W := by
  obtain ⟨lx, hlx⟩ := pt_keyOf p hp
  exact cm_pt_law.check W em hlx
/-- A map that has just been made. -/
theorem map_made (w : World) : MapAt (w.alloc (.map #[] 0)) w.heap.size [] := ⟨#[], 0, heap_alloc_new w _, stamped_empty 0, rfl, by simp⟩
/-! Ranging. -/
/-- Block r goes over the map m; these are still to come. -/
def IterAt (w : World) (m : Option Nat) (r : Nat) (rest : List TSp) : Prop :=
  match m with
  | none => rest = [] ∧ w.heap[r]? = some (.mapIter none 0 #[] 0)
  | some b => ∃ es clock since seen c0, w.heap[b]? = some (.map es clock) ∧ Stamped es clock ∧ w.heap[r]? = some (.mapIter (some b) since seen c0) ∧ (∀ x ∈ es.toList, x.born < since) ∧ since ≤ c0 ∧ since ≤ clock ∧
    (leftOf es seen).toList.map kvE = rest.map enE ∧ ∀ x ∈ rest, SpOk x
theorem IterAt.kps {F : Nat → Prop} {w' : World} {m : Option Nat} {r : Nat} {rest : List TSp} (h : IterAt w m r rest) (hk : Kps F w w') (hf : ∀ b, m = some b → F b) (hr : F r) : IterAt w' m r rest := by
  cases m with
  | none => exact ⟨h.1, row_kps h.2 hk hr⟩
  | some b =>
    obtain ⟨es, clock, since, seen, c0, hb, h1, h2, h3⟩ := h
    exact ⟨es, clock, since, seen, c0, row_kps hb hk (hf b rfl), h1, row_kps h2 hk hr, h3⟩
theorem IterAt.below {w' : World} {m : Option Nat} {r : Nat} {rest : List TSp} (h : IterAt w m r rest) (hb : Below w.heap.size w w') : IterAt w' m r rest := by
  cases m with
  | none => exact ⟨h.1, row_below h.2 hb⟩
  | some b =>
    obtain ⟨es, clock, since, seen, c0, h0, h1, h2, h3⟩ := h
    exact ⟨es, clock, since, seen, c0, row_below h0 hb, h1, row_below h2 hb, h3⟩
theorem left_perm {es : Array MapEntry} {seen : Array Nat} {e : MapEntry} (hn : (es.toList.map (·.born)).Nodup) (he : e ∈ (leftOf es seen).toList) :
    (leftOf es seen).toList.Perm (e :: (leftOf es (seen.push e.born)).toList) := by
  have h1 : ∀ s, (leftOf es s).toList = es.toList.filter fun x => !s.contains x.born := fun s => by
    unfold leftOf
    rw [← Array.toList_filter]
  obtain ⟨hm, hc⟩ := mem_left he
  rw [h1, h1]
  have key : ∀ L : List MapEntry, (L.map (·.born)).Nodup → e ∈ L → (L.filter fun x => !seen.contains x.born).Perm (e :: L.filter fun x => !(seen.push e.born).contains x.born) := by
    intro L
    induction L with
    | nil => intro _ h; simp at h
    | cons y L ih =>
      intro hnd hme
      rw [List.map_cons, List.nodup_cons] at hnd
      rcases List.mem_cons.1 hme with rfl | hme'
      · have : (L.filter fun x => !(seen.push e.born).contains x.born) = L.filter fun x => !seen.contains x.born := by
          apply List.filter_congr
          intro x hx
          rw [contains_push]
          have : (x.born == e.born) = false := by
            rw [beq_eq_false_iff_ne]
            exact fun h => hnd.1 (List.mem_map.2 ⟨x, hx, h⟩)
          rw [this, Bool.or_false]
        rw [List.filter_cons_of_pos (by rw [hc]; rfl), List.filter_cons_of_neg (by rw [contains_push]; simp), this]
      · have hne : (y.born == e.born) = false := by
          rw [beq_eq_false_iff_ne]
          exact fun h => hnd.1 (List.mem_map.2 ⟨e, hme', h.symm⟩)
        have ih' := ih hnd.2 hme'
        by_cases hs : seen.contains y.born = true
        · rw [List.filter_cons_of_neg (by rw [hs]; simp), List.filter_cons_of_neg (by rw [contains_push, hs]; simp)]
          exact ih'
        · have hs' : seen.contains y.born = false := by simpa using hs
          rw [List.filter_cons_of_pos (by rw [hs']; rfl), List.filter_cons_of_pos (by rw [contains_push, hs', hne]; rfl)]
          exact (ih'.cons y).trans (List.Perm.swap _ _ _)
  exact key es.toList hn hm
theorem run_next_cn {m : Option Nat} {r : Nat} {rest : List TSp} (h : IterAt w m r rest) (hrm : m ≠ some r) (ty : TypeId) :
    (rest = [] ∧ (Instr.next (.pointer (some ⟨r, 0, none⟩)) false ty).run Tryd.prog w = .ok (.tuple #[.bool false]) w) ∨
    ∃ x rest' w', rest.Perm (x :: rest') ∧ SpOk x ∧ (Instr.next (.pointer (some ⟨r, 0, none⟩)) false ty).run Tryd.prog w = .ok (.tuple #[.bool true, .agg (ptC x.at_).toArray, .agg (mnL x.coin).toArray]) w' ∧ IterAt w' m r rest' ∧ w.grownBy w' (some r) ∧ w'.heap.size = w.heap.size ∧
      (Instr.entry (.pointer (some ⟨r, 0, none⟩))).run Tryd.prog w' = .ok (.tuple #[.agg (ptC x.at_).toArray, .agg (mnL x.coin).toArray]) w' := by
  cases m with
  | none =>
    refine .inl ⟨h.1, ?_⟩
    have h2 := h.2
    simp only [Instr.next, getObj, Sem.run_bind, Sem.run, h2, Result.andThen]
    rfl
  | some b =>
    obtain ⟨es, clock, since, seen, c0, hb, hs, hr, hold, hsc, hsk, he, ho⟩ := h
    have hst := (stamped_iff es clock).1 hs
    rcases run_next_at (P := Tryd.prog) w ty r b since c0 seen es clock hr hb hold hsc with ⟨h0, hrun⟩ | ⟨e, hem, w1, hal, hrun⟩
    · refine .inl ⟨?_, hrun⟩
      have h4 := congrArg List.length he
      simp only [List.length_map, Array.length_toList, h0] at h4
      exact List.eq_nil_of_length_eq_zero h4.symm
    · obtain ⟨hm, hc⟩ := mem_left hem
      have hne : r ≠ b := fun e => hrm (by rw [e])
      have hr1 : w1.heap[r]? = some (.mapIter (some b) since seen c0) := by rcases hal with rfl | rfl <;> exact hr
      have hb1 : w1.heap[b]? = some (.map es clock) := by rcases hal with rfl | rfl <;> exact hb
      have hset := heap_set (o' := .mapIter (some b) since (seen.push e.born) clock) hr1
      have hb' : (setBlock w1 r (.mapIter (some b) since (seen.push e.born) clock)).heap[b]? = some (.map es clock) := (hset.2 b (fun e1 => hne e1.symm)).trans hb1
      have hperm := (left_perm hst.2.1 hem).map kvE
      rw [he, List.map_cons] at hperm
      -- the coin that came, and those behind it
      have hmem : kvE e ∈ rest.map enE := hperm.mem_iff.2 List.mem_cons_self
      obtain ⟨x, hx, hxe⟩ := List.mem_map.1 hmem
      obtain ⟨s, t, rfl⟩ := List.append_of_mem hx
      have hp1 : (s ++ x :: t).Perm (x :: (s ++ t)) := List.perm_middle
      have hp2 : ((s ++ t).map enE).Perm ((leftOf es (seen.push e.born)).toList.map kvE) := by
        have h5 := (hp1.map enE).symm.trans hperm
        rw [List.map_cons, hxe] at h5
        exact (List.perm_cons _).1 h5
      obtain ⟨rest', hp3, hr'⟩ : ∃ rest', (s ++ t).Perm rest' ∧ (leftOf es (seen.push e.born)).toList.map kvE = rest'.map enE := perm_map_ex hp2
      rw [kvE, enE, Prod.mk.injEq] at hxe
      refine .inr ⟨x, rest', _, hp1.trans (hp3.cons x), ho x hx, by rw [hxe.1, hxe.2]; exact hrun, ⟨es, clock, since, seen.push e.born, clock, hb', hs, hset.1, hold, hsk, hsk, hr', fun y hy => ho y (hp1.mem_iff.2 (List.mem_cons_of_mem _ (hp3.mem_iff.2 hy)))⟩, ?_, ?_, ?_⟩
      · rcases hal with rfl | rfl <;> exact ⟨rfl, rfl, rfl, by simp [setBlock], fun i _ hi => hset.2 i (fun e1 => hi (by rw [e1]))⟩
      · rcases hal with rfl | rfl <;> simp [setBlock]
      · rw [hxe.1, hxe.2]
        exact run_entry_at _ r b since seen es clock e hset.1 hb' hm hst.2.1
end
end Go.Proofs.YtnhmjlljnckieaaDoor.Sha

/-
  A coin with its place built out of its parts. No conditions beyond those that each states.
-/
namespace Go.Proofs.YtnhmjlljnckieaaDoor.Sha
open Go Go.RowKit
def ptZ : TPt := ⟨List.replicate 32 0, 0⟩
theorem ptZ_ok : PtOk ptZ := ⟨rfl, Nat.zero_le _⟩
end Go.Proofs.YtnhmjlljnckieaaDoor.Sha

/-
  A set of coins in memory: how many, what is at a place. Nothing that was there turns. Conditions: the set lies where the pointer says; a place as the model has it.
-/
namespace Go.Proofs.YtnhmjlljnckieaaDoor.Sha
open Go Go.RowKit
theorem yieldsIf_lookup {P : Program} {ops : Array Oper} {S : World → Prop} {op : Oper} {a : Act} (hw : Region.wanted op (yielded ops a.tmps) = true) (t : TypeId) (x y : Operand) (c : Bool) (ho : op.op = .lookup t x y c)
    (u v z : Value) (hx : a.eval x = u) (hy : a.eval y = v) (h : ∀ w, S w → (Instr.lookup t u v c).run P w = .ok z w) : YieldsIf P ops S op z a :=
  .inl ⟨hw, fun w hw' => by
    unfold execOp
    simp [ho, hx, hy, h w hw', Sem.run_bind, Result.andThen]⟩
section
variable {w w' : World} {a : Nat} {m : Option Nat} {l : List TSp}
theorem MapO.lt (h : MapO w m l) : ∀ b, m = some b → b < w.heap.size := fun b e => by
  subst e
  exact MapAt.lt h
theorem getD_ok (h : ∀ x ∈ l, SpOk x) (p : TPt) : MnOk ((getC l p).getD mnZ) := by
  unfold getC
  cases hf : l.find? (fun x => decide (x.at_ = p)) with
  | none => exact mnZ_ok
  | some x => exact (h x (List.mem_of_find?_eq_some hf)).2
end
end Go.Proofs.YtnhmjlljnckieaaDoor.Sha

/-
  A coin is spent, or added; the map alone turns, and the set's box where it had none. Conditions: the set lies where the pointer says; a place, a coin as the model has them; the errors are there.
-/
namespace Go.Proofs.YtnhmjlljnckieaaDoor.Sha
open Go Go.RowKit
theorem Kps.far {F : Nat → Prop} {w w1 w2 : World} {g : Nat} (h : Kps F w w1) (hg : w1.grownBy w2 (some g)) (hge : w.heap.size ≤ g) : Kps F w w2 :=
  ⟨hg.os.trans h.os, hg.tape.trans h.tape, hg.output.trans h.output, Nat.le_trans h.size hg.size, fun k hk hf => (hg.block k (Nat.lt_of_lt_of_le hk h.size) (fun e => by have := Option.some.inj e; omega)).trans (h.block k hk hf)⟩
theorem cell_below {w w' : World} {p : Addr} {v : Value} (h : w.cell? p = some v) (hb : Below w.heap.size w w') : w'.cell? p = some v := by
  rw [hb.cell (World.block_lt_of_cell? w _ h)]
  exact h
theorem getC_opt {l : List TSp} {p : TPt} (h : (getC l p).isSome = false) : getC l p = none := by
  cases hg : getC l p with
  | none => rfl
  | some c => rw [hg] at h; cases h
theorem delC_none {l : List TSp} {p : TPt} (h : getC l p = none) : delC l p = l := List.filter_eq_self.2 (fun x hx => by simpa using getC_ne h x hx)
end Go.Proofs.YtnhmjlljnckieaaDoor.Sha

/-
  The statements' own tree: a box with an own row of nodes; where a block is. Nothing that was there turns. Conditions: the tree lies where the pointer says, nodes as the model has them, at most 4096.
-/
namespace Go.Proofs.YtnhmjlljnckieaaDoor.Sha
open Go Go.RowKit
/-- A node. -/
structure TNd where
  id : List UInt8
  h : THd
  parent : Int
  height : Int
  work : Nat
  bad : Bool
def ndL (x : TNd) : List Value := x.id.map bV ++ (hdL x.h ++ [.int .i64 x.parent, .int .i64 x.height, .int .u64 (x.work : Int), .bool x.bad])
def NdOk (x : TNd) : Prop := x.id.length = 32 ∧ HdOk x.h ∧ -1 ≤ x.parent ∧ x.parent ≤ 4096 ∧ 0 ≤ x.height ∧ x.height ≤ 4096 ∧ x.work ≤ 18446744073709551615
theorem ndL_length {x : TNd} (h : NdOk x) : (ndL x).length = 104 := by simp [ndL, h.1, hdL_length h.2.1]
theorem ndL_size {x : TNd} (h : NdOk x) : (ndL x).toArray.size = 104 := by simp [ndL_length h]
theorem ndL_one (x : TNd) : ∀ v ∈ ndL x, v.oneCell' = true := by
  intro v hv
  rcases List.mem_append.1 hv with h | h
  · exact bV_one' _ v h
  rcases List.mem_append.1 h with h | h
  · exact hdL_one' _ v h
  · simp only [List.mem_cons, List.not_mem_nil, or_false] at h
    rcases h with rfl | rfl | rfl | rfl <;> rfl
theorem ndL_all (x : TNd) : (ndL x).toArray.all (·.oneCell') = true := all_oneCell_toArray (ndL_one x)
def ndZ : TNd := ⟨List.replicate 32 0, ⟨0, List.replicate 32 0, List.replicate 32 0, 0, 0, 0⟩, 0, 0, 0, false⟩
/-- What of it lies where. -/
theorem nd_id {w : World} {b o : Nat} {x : TNd} (h : w.rangeAt b o (ndL x)) : w.rangeAt b o (x.id.map bV) := fun j v hj => h j v (by
  rw [ndL, List.getElem?_append_left (List.getElem?_eq_some_iff.1 hj).1]
  exact hj)
theorem nd_tail {w : World} {b o : Nat} {x : TNd} (hx : NdOk x) (h : w.rangeAt b o (ndL x)) : w.rangeAt b (o + 32) (hdL x.h ++ [.int .i64 x.parent, .int .i64 x.height, .int .u64 (x.work : Int), .bool x.bad]) := fun j v hj => by
  have := h (32 + j) v (by
    rw [ndL, List.getElem?_append_right (by simp [hx.1]), List.length_map, hx.1, Nat.add_sub_cancel_left]
    exact hj)
  rwa [show o + (32 + j) = o + 32 + j by omega] at this
theorem nd_head {w : World} {b o : Nat} {x : TNd} (hx : NdOk x) (h : w.rangeAt b o (ndL x)) : w.rangeAt b (o + 32) (hdL x.h) := fun j v hj => nd_tail hx h j v (by
  rw [List.getElem?_append_left (List.getElem?_eq_some_iff.1 hj).1]
  exact hj)
theorem nd_nums {w : World} {b o : Nat} {x : TNd} (hx : NdOk x) (h : w.rangeAt b o (ndL x)) : w.cell? ⟨b, o + 100, none⟩ = some (.int .i64 x.parent) ∧ w.cell? ⟨b, o + 101, none⟩ = some (.int .i64 x.height) ∧ w.cell? ⟨b, o + 102, none⟩ = some (.int .u64 (x.work : Int)) ∧ w.cell? ⟨b, o + 103, none⟩ = some (.bool x.bad) := by
  have hl := hdL_length hx.2.1
  have ht := nd_tail hx h
  have g : ∀ (j : Nat) (v : Value), [Value.int .i64 x.parent, .int .i64 x.height, .int .u64 (x.work : Int), .bool x.bad][j]? = some v → w.cell? ⟨b, o + (100 + j), none⟩ = some v := fun j v hj => by
    have := ht (68 + j) v (by
      rw [List.getElem?_append_right (by rw [hl]; omega), hl, Nat.add_sub_cancel_left]
      exact hj)
    have e : (⟨b, o + 32 + (68 + j), none⟩ : Addr) = ⟨b, o + (100 + j), none⟩ := by congr 1; omega
    rwa [e] at this
  exact ⟨g 0 _ rfl, g 1 _ rfl, g 2 _ rfl, g 3 _ rfl⟩
section
variable {w w' : World} {base a : Nat} {v : Value} {L : List TNd}
end
/-- Where a block is; -1. -/
def findT (L : List TNd) (id : List UInt8) : Int := match L.findIdx? (fun x => decide (x.id = id)) with | some k => (k : Int) | none => -1
theorem findT_some {L : List TNd} {id : List UInt8} {k : Nat} {x : TNd} (hx : L[k]? = some x) (hi : x.id = id) (hlt : ∀ (j : Nat) (y : TNd), j < k → L[j]? = some y → y.id ≠ id) : findT L id = (k : Int) := by
  have h : L.findIdx? (fun x => decide (x.id = id)) = some k := by
    rw [List.findIdx?_eq_some_iff_getElem]
    obtain ⟨hk, e⟩ := List.getElem?_eq_some_iff.1 hx
    exact ⟨hk, by rw [e]; simp [hi], fun j hj => by
      have := hlt j L[j] hj (List.getElem?_eq_getElem (by omega))
      simp [this]⟩
  unfold findT
  rw [h]
theorem findT_none {L : List TNd} {id : List UInt8} (h : ∀ (j : Nat) (y : TNd), L[j]? = some y → y.id ≠ id) : findT L id = -1 := by
  have h : L.findIdx? (fun x => decide (x.id = id)) = none := by
    rw [List.findIdx?_eq_none_iff]
    intro y hy
    obtain ⟨j, hj⟩ := List.getElem?_of_mem hy
    have := h j y hj
    simp [this]
  unfold findT
  rw [h]
theorem findT_cases (L : List TNd) (id : List UInt8) : (findT L id = -1 ∧ ∀ x ∈ L, x.id ≠ id) ∨ ∃ (k : Nat) (x : TNd), findT L id = (k : Int) ∧ L[k]? = some x ∧ x.id = id ∧ ∀ (j : Nat) (y : TNd), j < k → L[j]? = some y → y.id ≠ id := by
  cases h : L.findIdx? (fun x => decide (x.id = id)) with
  | none =>
    refine .inl ⟨by unfold findT; rw [h], fun x hx => ?_⟩
    have := List.findIdx?_eq_none_iff.1 h x hx
    simpa using this
  | some k =>
    obtain ⟨hk, h1, h2⟩ := List.findIdx?_eq_some_iff_getElem.1 h
    refine .inr ⟨k, L[k], by unfold findT; rw [h], List.getElem?_eq_getElem hk, by simpa using h1, fun j y hj hy => ?_⟩
    have := h2 j hj
    obtain ⟨hj2, e⟩ := List.getElem?_eq_some_iff.1 hy
    rw [← e]
    simpa using this
def FdInv (n : Nat) (L : List TNd) (id : List UInt8) (w1 : World) (vi : Value) (wr : World) : Prop :=
  ∃ k : Nat, k ≤ n ∧ vi = .int .i64 (k : Int) ∧ (∀ (j : Nat) (y : TNd), j < k → L[j]? = some y → y.id ≠ id) ∧ Below w1.heap.size w1 wr
end Go.Proofs.YtnhmjlljnckieaaDoor.Sha

/-
  The statements' own tree: the places from one down to the start; whether one is below another one. Nothing that was there turns. Conditions: the tree lies where the pointer says; each node's parent stands ahead of it, at most 4096.
-/
namespace Go.Proofs.YtnhmjlljnckieaaDoor.Sha
open Go Go.RowKit
/-- Each one's parent stands ahead of it. -/
def Down (L : List TNd) : Prop := ∀ (i : Nat) x, L[i]? = some x → -1 ≤ x.parent ∧ x.parent < (i : Int)
def parT (L : List TNd) (k : Nat) : Int := match L[k]? with | some x => x.parent | none => -1
/-- From one down to the start. -/
def upF (L : List TNd) : Nat → Int → List Int
  | 0, _ => []
  | f + 1, k => if k < 0 then [] else k :: upF L f (parT L k.toNat)
def upL (L : List TNd) (k : Int) : List Int := upF L (k.toNat + 1) k
theorem upF_more (L : List TNd) (hd : Down L) : ∀ (f g : Nat) (k : Int), k.toNat < f → k.toNat < g → k < (L.length : Int) → upF L f k = upF L g k
  | 0, _, _, h, _, _ => absurd h (by omega)
  | _ + 1, 0, _, _, h, _ => absurd h (by omega)
  | f + 1, g + 1, k, h1, h2, hk => by
    rw [upF, upF]
    by_cases h0 : k < 0
    · rw [if_pos h0, if_pos h0]
    · rw [if_neg h0, if_neg h0]
      congr 1
      obtain ⟨x, hx⟩ : ∃ x, L[k.toNat]? = some x := ⟨_, List.getElem?_eq_getElem (by omega)⟩
      have hp := hd _ _ hx
      have e : parT L k.toNat = x.parent := by unfold parT; rw [hx]
      rw [e]
      by_cases hn : x.parent < 0
      · cases f with
        | zero => cases g with
          | zero => rfl
          | succ g => rw [upF, upF, if_pos hn]
        | succ f => cases g with
          | zero => rw [upF, upF, if_pos hn]
          | succ g => rw [upF, upF, if_pos hn, if_pos hn]
      · exact upF_more L hd f g x.parent (by omega) (by omega) (by omega)
theorem upL_neg {L : List TNd} {k : Int} (h : k < 0) : upL L k = [] := by
  unfold upL
  rw [upF, if_pos h]
theorem upL_step {L : List TNd} (hd : Down L) {k : Nat} {x : TNd} (hx : L[k]? = some x) : upL L (k : Int) = (k : Int) :: upL L x.parent := by
  have hk := (List.getElem?_eq_some_iff.1 hx).1
  have hp := hd k x hx
  have e : parT L k = x.parent := by unfold parT; rw [hx]
  unfold upL
  rw [upF, if_neg (by omega), Int.toNat_natCast, e]
  congr 1
  by_cases h0 : x.parent < 0
  · rw [upF, if_pos h0]
    cases k with
    | zero => rfl
    | succ k => rw [upF, if_pos h0]
  · exact upF_more L hd _ _ _ (by omega) (by omega) (by omega)
theorem upL_bound {L : List TNd} (hd : Down L) : ∀ (n k : Nat), k ≤ n → k < L.length → (upL L (k : Int)).length ≤ k + 1
  | n, k, hkn, hk => by
    obtain ⟨x, hx⟩ : ∃ x, L[k]? = some x := ⟨_, List.getElem?_eq_getElem hk⟩
    have hp := hd k x hx
    rw [upL_step hd hx, List.length_cons]
    by_cases h0 : x.parent < 0
    · rw [upL_neg h0]; simp
    · obtain ⟨p, hpe⟩ : ∃ p : Nat, x.parent = (p : Int) := ⟨x.parent.toNat, by omega⟩
      rw [hpe]
      match n, hkn with
      | 0, h => exact absurd (show p < 0 by omega) (by omega)
      | n + 1, h =>
        have := upL_bound hd n p (by omega) (by omega)
        omega
def IntsOwn (base : Nat) (w : World) (v : Value) (l : List Int) : Prop := w.ownsRow base 3 1 v l.length (l.map (Value.int .i64 ·))
theorem info_int : (Tryd.prog.info? 3).map (fun i => (i.zero, i.size, i.bytes)) = some (some (.int .i64 0), 1, 8) := by kernel_rfl
theorem one_i64 (x : Int) : ∀ u ∈ [Value.int .i64 x], u.oneCell' = true := by
  intro u hu
  simp at hu
  subst hu
  rfl
def UpInv (n : Nat) (L : List TNd) (k0 : Int) (w : World) (vk vo : Value) (wr : World) : Prop :=
  ∃ (d : List Int) (k : Int) (tv : Value), tv = vo ∧ vk = .int .i64 k ∧ -1 ≤ k ∧ k < (n : Int) ∧ upL L k0 = d ++ upL L k ∧ IntsOwn w.heap.size wr tv d ∧ Below w.heap.size w wr ∧ d.length + (k + 1).toNat ≤ n
/-- Is one below another one, or it? -/
def belT (L : List TNd) (k u : Int) : Bool := (upL L k).contains u
def BeInv (n : Nat) (L : List TNd) (k0 u : Int) (vk : Value) : Prop :=
  ∃ k : Int, vk = .int .i64 k ∧ -1 ≤ k ∧ k < (n : Int) ∧ belT L k0 u = belT L k u
end Go.Proofs.YtnhmjlljnckieaaDoor.Sha

/-
  The tree of headers as a list: chains from a node down to the start, what two chains have in common, the ids of places. No conditions.
-/
namespace Go.Proofs.YtnhmjlljnckieaaDoor.Sha
open Go Go.RowKit
theorem upL_mem {L : List TNd} (hd : Down L) : ∀ (n k : Nat), k ≤ n → k < L.length → ∀ j ∈ upL L (k : Int), 0 ≤ j ∧ j < (L.length : Int)
  | n, k, hkn, hk, j, hj => by
    obtain ⟨x, hx⟩ : ∃ x, L[k]? = some x := ⟨_, List.getElem?_eq_getElem hk⟩
    have hp := hd k x hx
    rw [upL_step hd hx] at hj
    rcases List.mem_cons.1 hj with rfl | hj
    · omega
    · by_cases h0 : x.parent < 0
      · rw [upL_neg h0] at hj
        cases hj
      · obtain ⟨p, hpe⟩ : ∃ p : Nat, x.parent = (p : Int) := ⟨x.parent.toNat, by omega⟩
        rw [hpe] at hj
        match n, hkn with
        | 0, h => exact absurd (show p < 0 by omega) (by omega)
        | n + 1, h => exact upL_mem hd n p (by omega) (by omega) j hj
/-- The start alone has no parent. -/
def Rooted (L : List TNd) : Prop := ∀ (i : Nat) x, L[i]? = some x → 0 < i → 0 ≤ x.parent
/-- How many two lists have in common from the first on. -/
def comP : List Int → List Int → Nat
  | x :: l, y :: m => if x = y then comP l m + 1 else 0
  | _, _ => 0
theorem comP_at : ∀ (l m : List Int) (j : Nat), j ≤ l.length → j ≤ m.length → (∀ i, i < j → l[i]? = m[i]?) → (j = l.length ∨ j = m.length ∨ l[j]? ≠ m[j]?) → comP l m = j
  | [], m, j, h1, _, _, _ => by
    obtain rfl : j = 0 := Nat.le_zero.1 h1
    cases m <;> rfl
  | x :: l, [], j, _, h2, _, _ => by
    obtain rfl : j = 0 := Nat.le_zero.1 h2
    rfl
  | x :: l, y :: m, 0, _, _, _, h4 => by
    have hne : x ≠ y := fun e => by
      rcases h4 with h | h | h
      · simp at h
      · simp at h
      · exact h (by rw [e]; rfl)
    unfold comP
    rw [if_neg hne]
  | x :: l, y :: m, j + 1, h1, h2, h3, h4 => by
    have he : x = y := by have := h3 0 (by omega); simpa using this
    unfold comP
    rw [if_pos he, comP_at l m j (by simpa using h1) (by simpa using h2) (fun i hi => by have := h3 (i + 1) (by omega); simpa using this) (by
      rcases h4 with h | h | h
      · left; simpa using h
      · right; left; simpa using h
      · right; right; simpa using h)]
theorem comP_le : ∀ (l m : List Int), comP l m ≤ l.length ∧ comP l m ≤ m.length
  | [], m => by cases m <;> exact ⟨Nat.zero_le _, Nat.zero_le _⟩
  | x :: l, [] => ⟨Nat.zero_le _, Nat.zero_le _⟩
  | x :: l, y :: m => by
    have ih := comP_le l m
    unfold comP
    by_cases h : x = y
    · rw [if_pos h]
      exact ⟨by simp; exact ih.1, by simp; exact ih.2⟩
    · rw [if_neg h]
      exact ⟨Nat.zero_le _, Nat.zero_le _⟩
theorem upL_last {L : List TNd} (hd : Down L) (hr : Rooted L) : ∀ (n k : Nat), k ≤ n → k < L.length → (upL L (k : Int)).getLast? = some 0
  | n, k, hkn, hk => by
    obtain ⟨x, hx⟩ : ∃ x, L[k]? = some x := ⟨_, List.getElem?_eq_getElem hk⟩
    have hp := hd k x hx
    rw [upL_step hd hx]
    by_cases h0 : k = 0
    · subst h0
      rw [upL_neg (by omega)]
      rfl
    · have hx0 := hr k x hx (by omega)
      obtain ⟨p, hpe⟩ : ∃ p : Nat, x.parent = (p : Int) := ⟨x.parent.toNat, by omega⟩
      rw [hpe]
      match n, hkn with
      | 0, h => exact absurd h (by omega)
      | n + 1, h =>
        have ih := upL_last hd hr n p (by omega) (by omega)
        rw [List.getLast?_cons, ih]
        rfl
/-- The ids of these places. -/
def idsT (L : List TNd) (l : List Int) : List (List UInt8) := l.map fun j => (L.getD j.toNat ndZ).id
def comT (L : List TNd) (x y : Int) : Nat := comP (upL L x).reverse (upL L y).reverse
def backT (L : List TNd) (x y : Int) : List (List UInt8) := idsT L ((upL L x).take ((upL L x).length - comT L x y))
def onT (L : List TNd) (x y : Int) : List (List UInt8) := idsT L (((upL L y).take ((upL L y).length - comT L x y)).reverse)
def meetT (L : List TNd) (x y : Int) : List UInt8 := (L.getD ((upL L x).getD ((upL L x).length - comT L x y) 0).toNat ndZ).id
theorem com_pos {L : List TNd} (hd : Down L) (hr : Rooted L) {x y : Nat} (hx : x < L.length) (hy : y < L.length) : 0 < comT L (x : Int) (y : Int) := by
  have h1 := upL_last hd hr x x (Nat.le_refl _) hx
  have h2 := upL_last hd hr y y (Nat.le_refl _) hy
  rw [← List.head?_reverse] at h1 h2
  unfold comT
  cases hl : (upL L (x : Int)).reverse with
  | nil => rw [hl] at h1; cases h1
  | cons u l =>
    cases hm : (upL L (y : Int)).reverse with
    | nil => rw [hm] at h2; cases h2
    | cons v m =>
      rw [hl] at h1
      rw [hm] at h2
      have e1 : u = 0 := by simpa using h1
      have e2 : v = 0 := by simpa using h2
      unfold comP
      rw [e1, e2, if_pos rfl]
      omega
theorem idsT_succ {L : List TNd} {l : List Int} {i : Nat} {j : Int} (h : l[i]? = some j) : idsT L (l.take (i + 1)) = idsT L (l.take i) ++ [(L.getD j.toNat ndZ).id] := by
  unfold idsT
  rw [List.take_succ_eq_append_getElem (List.getElem?_eq_some_iff.1 h).1, (List.getElem?_eq_some_iff.1 h).2, List.map_append]
  rfl
theorem rev_get {α : Type} {l : List α} {n i p : Nat} (hn : l.length = n) (h : i + p + 1 = n) : l.reverse[i]? = l[p]? := by
  rw [List.getElem?_reverse (by omega), hn, show n - 1 - i = p by omega]
end Go.Proofs.YtnhmjlljnckieaaDoor.Sha

/-
  Small functions of the statements' own SHA-256: a word turned right, the table of the rounds' words, as the chapter gives them. No conditions.
-/
namespace Go.Proofs.YtnhmjlljnckieaaDoor.Sha
open Go Go.RowKit
theorem right_fact (x : UInt32) (n : Nat) (h1 : 1 ≤ n) (h2 : n ≤ 31) : bits .or .u32 (wv x / 2 ^ n) (wv x * 2 ^ (32 - n) % 4294967296) = wv (rotr x n) := by
  rw [← IntKind.wrap_u32', wv_shl x _ (by omega), wv_shr x n (by omega), wv_or]
  rfl
set_option maxRecDepth 100000 in
theorem right_any (x : UInt32) (n : Nat) (k : Int) (hk : k = (n : Int)) (h1 : 1 ≤ n) (h2 : n ≤ 31) (w : World) :
    Calls Tryd.prog 40 #[.int .u32 (wv x), .int .u64 k] w fun e w' => e = .returned (.int .u32 (wv (rotr x n))) ∧ w = w' := by
  subst hk
  go_enter Tryd.func40, Tryd.ntmps40
  go_wp2
  go_ret
  exact ⟨ret_int (right_fact x n h1 h2), rfl⟩
theorem right_z (x : UInt32) (k : Int) (h1 : 1 ≤ k) (h2 : k ≤ 31) (w : World) :
    Calls Tryd.prog 40 #[.int .u32 (wv x), .int .u64 k] w fun e w' => e = .returned (.int .u32 (wv (rotr x k.toNat))) ∧ w = w' :=
  right_any x k.toNat k (by omega) (by omega) (by omega) w
theorem wv_sum3 (a b c : UInt32) : (wv a + wv b + wv c) % 4294967296 = wv (a + b + c) := by rw [← wv_sum, ← wv_sum]; omega
theorem wv_sum4 (a b c d : UInt32) : (wv a + wv b + wv c + wv d) % 4294967296 = wv (a + b + c + d) := by rw [← wv_sum, ← wv_sum3]; omega
theorem wv_not (x : UInt32) : bits .xor .u32 IntKind.u32.max (wv x) = wv (~~~x) := by
  rw [show IntKind.u32.max = wv 4294967295 from rfl, wv_xor, show (4294967295 : UInt32) = -1 from rfl, UInt32.neg_one_xor]
set_option maxRecDepth 100000 in
theorem k_any (w : World) : Calls Tryd.prog 39 #[] w fun e w' => e = .returned (.slice (some ⟨w.heap.size, 0, none⟩) 64 64) ∧ w'.heap[w.heap.size]? = some (.cells (kList.map wV).toArray 28 (0, 0)) ∧ Below w.heap.size w w' := by
  go_enter Tryd.func39, Tryd.ntmps39
  go_wp2
  go_ret
  exact ⟨rfl, by rw [heap_alloc_new]; rfl, (Below.refl _ _).alloc (Nat.le_refl _) _⟩
end Go.Proofs.YtnhmjlljnckieaaDoor.Sha
