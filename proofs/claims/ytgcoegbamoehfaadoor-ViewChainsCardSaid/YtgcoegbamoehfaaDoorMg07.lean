/-
  Texts of this proof joined into one file: CnMap, StoreW, CnSet, GMap, CmpTake. What each holds, and under which conditions, its own first sentence tells.
-/
import Derived.DeepKeys4
import Derived.Maps.RangeRun
import Derived.Laws.ResultCell
import Derived.Test.YtgcoegbamoehfaaDoorMg06
import Derived.Test.YtgcoegbamoehfaaDoorMg05
import Derived.Test.YtgcoegbamoehfaaDoorMg01
/-
  A map of coins by their places: what is found, put, taken away, counted, ranged over. Conditions: places and coins as the model has them.
-/
namespace Go.Proofs.YtgcoegbamoehfaaDoor.Sha
open Go Go.RowKit Go.MapKept
open Go.ChangeMaps (setBlock heap_setBlock_same heap_setBlock_other)
theorem cn_laidOut : laidOutB Tryd.prog = true := by kernel_rfl
theorem cm_pt_row : 28 < Tryd.prog.types.size := of_decide_eq_true (by kernel_rfl)
theorem types_two : 2 ≤ Tryd.prog.types.size := of_decide_eq_true (by kernel_rfl)
theorem pt_keyAt : Tryd.prog.keyTypeAt 3 28 = true := by kernel_rfl
theorem cm_pt_key : Tryd.prog.keyType 28 = true := by kernel_rfl
theorem cm_pt_wide : (match Tryd.prog.underlying 28 with | some (.array _ _) | some (.struct _) => true | _ => false) = true := by kernel_rfl
set_option maxRecDepth 100000 in
theorem cm_pt_law : WideMaps.KeyLaw Tryd.prog 28 := deep_law_laid cn_laidOut (m := 3) (by omega) cm_pt_row pt_keyAt cm_pt_wide
theorem mapM_some {α β : Type} {f : α → Option β} : ∀ (L : List α), (∀ i ∈ L, ∃ y, f i = some y) → ∃ ys, L.mapM f = some ys
  | [], _ => ⟨[], rfl⟩
  | a :: L, h => by
    obtain ⟨y, hy⟩ := h a List.mem_cons_self
    obtain ⟨ys, hys⟩ := mapM_some L (fun i hi => h i (List.mem_cons_of_mem _ hi))
    exact ⟨y :: ys, by simp [List.mapM_cons, hy, hys]⟩
theorem cm_lits_u8 (D : Nat) (x : UInt8) : Tryd.prog.keyLits (D + 1) 5 [bV x] = some [.int .u8 (bv x)] := by
  have hw : (Lit.int .u8 (bv x)).wf = true := by
    have := bv_bd x
    simp [Lit.wf, IntKind.min, IntKind.max, IntKind.signed, IntKind.bits]
    omega
  simp [Program.keyLits, Tryd.underlying5, bV, hw]
theorem keyLits_arr {P : Program} {D n : Nat} {e t : TypeId} (hu : P.underlying t = some (.array n e)) (cs : List Value) (hl : cs.length = P.cellsOf t) :
    P.keyLits (D + 1) t cs = ((List.range n).mapM fun i => P.keyLits D e ((cs.drop (i * P.cellsOf e)).take (P.cellsOf e))).map List.flatten := by
  conv => lhs; unfold Program.keyLits
  simp only [hu]
  rw [if_pos hl]
theorem keyLits_struct {P : Program} {D : Nat} {fs : Array Field} {t : TypeId} (hu : P.underlying t = some (.struct fs)) (cs : List Value) (hl : cs.length = P.cellsOf t) (hn : fs.all (·.name != "_") = true) :
    P.keyLits (D + 1) t cs = (fs.toList.mapM fun f => P.keyLits D f.type ((cs.drop f.offset).take (P.cellsOf f.type))).map List.flatten := by
  conv => lhs; unfold Program.keyLits
  simp only [hu]
  rw [if_pos ⟨hl, hn⟩]
theorem cm_lits_hash (D : Nat) (h : List UInt8) (hh : h.length = 32) : ∃ l, Tryd.prog.keyLits (D + 2) 25 (h.map bV) = some l := by
  have c1 : Tryd.prog.cellsOf 25 = 32 := by kernel_rfl
  have c2 : Tryd.prog.cellsOf 5 = 1 := by kernel_rfl
  obtain ⟨ys, hys⟩ := mapM_some (f := fun i => Tryd.prog.keyLits (D + 1) 5 (((h.map bV).drop (i * 1)).take 1)) (List.range 32) (fun i hi => by
    have hi2 : i < h.length := by rw [hh]; exact List.mem_range.1 hi
    have e : ((h.map bV).drop (i * 1)).take 1 = [bV (h[i]'hi2)] := by
      rw [Nat.mul_one, ← List.map_drop, List.drop_eq_getElem_cons hi2]
      rfl
    exact ⟨_, by show Tryd.prog.keyLits (D + 1) _ _ = _; rw [e]; exact cm_lits_u8 D _⟩)
  refine ⟨ys.flatten, ?_⟩
  rw [keyLits_arr Tryd.underlying25 _ (by rw [List.length_map, hh, c1]), c2, hys]
  rfl
theorem lits_num (D n : Nat) (hn : n ≤ 4294967295) : Tryd.prog.keyLits (D + 1) 26 [nV n] = some [.int .u32 (n : Int)] := by
  have hw : (Lit.int .u32 (n : Int)).wf = true := by
    simp [Lit.wf, IntKind.min, IntKind.max, IntKind.signed, IntKind.bits]
    omega
  simp [Program.keyLits, Tryd.underlying26, nV, hw]
theorem lits_pt (D : Nat) (p : TPt) (hp : PtOk p) : ∃ l, Tryd.prog.keyLits (D + 3) 28 (ptC p) = some l := by
  have c1 : Tryd.prog.cellsOf 25 = 32 := by kernel_rfl
  have c2 : Tryd.prog.cellsOf 26 = 1 := by kernel_rfl
  have c3 : Tryd.prog.cellsOf 28 = 33 := by kernel_rfl
  obtain ⟨la, hla⟩ := cm_lits_hash D p.h hp.1
  have hlb := lits_num (D + 1) p.n hp.2
  have hnm : (Tryd.prog.fieldsOf 28).all (·.name != "_") = true := by kernel_rfl
  have hf := pt_fields
  refine ⟨([la, [.int .u32 (p.n : Int)]] : List (List Lit)).flatten, ?_⟩
  have hm : (Tryd.prog.fieldsOf 28).toList.mapM (fun f => Tryd.prog.keyLits (D + 2) f.type (((ptC p).drop f.offset).take (Tryd.prog.cellsOf f.type))) = some [la, [.int .u32 (p.n : Int)]] := by
    generalize (Tryd.prog.fieldsOf 28).toList = fs at hf
    obtain ⟨f, f', rfl⟩ : ∃ f f', fs = [f, f'] := by
      have hl := congrArg List.length hf
      simp only [List.length_map, List.length_cons, List.length_nil] at hl
      obtain ⟨f, r, rfl⟩ := List.exists_cons_of_length_eq_add_one hl
      obtain ⟨f', r', rfl⟩ := List.exists_cons_of_length_eq_add_one (by simpa using hl)
      obtain rfl : r' = [] := List.eq_nil_of_length_eq_zero (by simpa using hl)
      exact ⟨f, f', rfl⟩
    simp only [List.map_cons, List.map_nil, List.cons.injEq, Prod.mk.injEq, and_true] at hf
    obtain ⟨⟨_, h2, h3⟩, _, h5, h6⟩ := hf
    have e1 : ((ptC p).drop 0).take 32 = p.h.map bV := by
      rw [List.drop_zero, ptC, ptL, List.take_append_of_le_length (by simp [hp.1]), List.take_of_length_le (by simp [hp.1])]
    have e2 : ((ptC p).drop 32).take 1 = [nV p.n] := by
      rw [ptC, ptL, List.drop_append_of_le_length (by simp [hp.1]), List.drop_of_length_le (by simp [hp.1])]
      rfl
    simp only [List.mapM_cons, List.mapM_nil, h2, h3, h5, h6, c1, c2, e1, e2, hla, hlb, Option.bind_eq_bind, Option.bind_some, Option.pure_def]
  rw [keyLits_struct pt_under _ (by rw [ptC_length hp, c3]) hnm, hm]
  rfl
theorem pt_keyOf (p : TPt) (hp : PtOk p) : ∃ l, keyOf Tryd.prog 28 (.agg (ptC p).toArray) = some l := by
  obtain ⟨m, hm⟩ : ∃ m, Tryd.prog.types.size = m + 2 := ⟨Tryd.prog.types.size - 2, by have := types_two; omega⟩
  obtain ⟨l, hl⟩ := lits_pt m p hp
  have hfo : Value.formed Tryd.prog 28 (.agg (ptC p).toArray) = true := by
    have c3 : Tryd.prog.cellsOf 28 = 33 := by kernel_rfl
    simp [Value.formed, pt_under, c3, ptC_length hp]
  refine ⟨.string (keyBytes l), ?_⟩
  have e : (Value.agg (ptC p).toArray).cells.toList = ptC p := by simp [Value.cells]
  simp only [keyOf, pt_under, cm_pt_key, hfo, Bool.and_self, if_true, e, hm, hl, Option.map_some]
/-- A permutation of a list's images is the image of a permutation. -/
theorem perm_map_ex {α β : Type} {f : α → β} : ∀ {l : List α} {m : List β}, (l.map f).Perm m → ∃ l', l.Perm l' ∧ m = l'.map f := by
  intro l m h
  generalize hk : l.map f = k at h
  induction h generalizing l with
  | nil => exact ⟨[], by rw [List.map_eq_nil_iff.1 hk], rfl⟩
  | cons x h ih =>
    cases l with
    | nil => simp at hk
    | cons a l =>
      rw [List.map_cons, List.cons.injEq] at hk
      obtain ⟨l', h1, h2⟩ := ih hk.2
      exact ⟨a :: l', h1.cons a, by rw [List.map_cons, hk.1, h2]⟩
  | swap x y r =>
    cases l with
    | nil => simp at hk
    | cons a l =>
      cases l with
      | nil => simp at hk
      | cons b l =>
        simp only [List.map_cons, List.cons.injEq] at hk
        exact ⟨b :: a :: l, List.Perm.swap _ _ _, by simp [hk.1, hk.2.1, hk.2.2]⟩
  | trans h1 h2 ih1 ih2 =>
    obtain ⟨l1, p1, e1⟩ := ih1 hk
    obtain ⟨l2, p2, e2⟩ := ih2 e1.symm
    exact ⟨l2, p1.trans p2, e2⟩
/-! The map. -/
def enE (x : TSp) : Value × Value := (.agg (ptC x.at_).toArray, .agg (mnL x.coin).toArray)
def kvE (e : MapEntry) : Value × Value := (e.key, e.val)
/-- Block b is a map of these coins. -/
def MapAt (w : World) (b : Nat) (l : List TSp) : Prop :=
  ∃ es clock, w.heap[b]? = some (.map es clock) ∧ Stamped es clock ∧ es.toList.map kvE = l.map enE ∧ ∀ x ∈ l, SpOk x
/-- A map's value: none, or a block. -/
def MapO (w : World) (m : Option Nat) (l : List TSp) : Prop :=
  match m with
  | none => l = []
  | some b => MapAt w b l
/-- What is at a place. -/
def getC (l : List TSp) (p : TPt) : Option TMn := (l.find? (fun x => decide (x.at_ = p))).map (·.coin)
def delC (l : List TSp) (p : TPt) : List TSp := l.filter (fun x => !decide (x.at_ = p))
def mnZ : TMn := ⟨0, List.replicate 32 0, 0, false⟩
theorem mnZ_ok : MnOk mnZ := ⟨rfl, by show 0 ≤ _; omega, by show _ ≤ (0 : Int); omega, by show (0 : Int) ≤ _; omega⟩
/-- A coin of zeros, at the place of zeros. -/
def spZ : TSp := ⟨⟨List.replicate 32 0, 0⟩, mnZ⟩
theorem spZ_ok : SpOk spZ := ⟨⟨rfl, Nat.zero_le _⟩, mnZ_ok⟩
theorem info_money : (Tryd.prog.info? 37).map (fun i => (i.zero, i.size, i.bytes)) = some (some (.agg (mnL mnZ).toArray), 35, 56) := by kernel_rfl
theorem zero_money (w : World) : (zeroValue 37).run Tryd.prog w = .ok (.agg (mnL mnZ).toArray) w := by kernel_rfl
section
variable {w : World} {b : Nat} {l : List TSp}
theorem enE_get {es : Array MapEntry} (h : es.toList.map kvE = l.map enE) {j : Nat} {e : MapEntry} (hj : es.toList[j]? = some e) : ∃ x, l[j]? = some x ∧ e.key = .agg (ptC x.at_).toArray ∧ e.val = .agg (mnL x.coin).toArray := by
  have h1 := congrArg (·[j]?) h
  simp only [List.getElem?_map, hj, Option.map_some] at h1
  cases hx : l[j]? with
  | none => simp [hx] at h1
  | some x =>
    rw [hx, Option.map_some, Option.some.injEq, kvE, enE, Prod.mk.injEq] at h1
    exact ⟨x, rfl, h1.1, h1.2⟩
theorem enE_mem {es : Array MapEntry} (h : es.toList.map kvE = l.map enE) {e : MapEntry} (he : e ∈ es.toList) : ∃ x ∈ l, e.key = .agg (ptC x.at_).toArray ∧ e.val = .agg (mnL x.coin).toArray := by
  obtain ⟨j, hj⟩ := List.getElem?_of_mem he
  obtain ⟨x, hx, h1⟩ := enE_get h hj
  exact ⟨x, List.mem_of_getElem? hx, h1⟩
theorem enE_mem' {es : Array MapEntry} (h : es.toList.map kvE = l.map enE) {x : TSp} (hx : x ∈ l) : ∃ e ∈ es.toList, e.key = .agg (ptC x.at_).toArray ∧ e.val = .agg (mnL x.coin).toArray := by
  have h1 : enE x ∈ es.toList.map kvE := by rw [h]; exact List.mem_map.2 ⟨x, hx, rfl⟩
  obtain ⟨e, he, h2⟩ := List.mem_map.1 h1
  rw [kvE, enE, Prod.mk.injEq] at h2
  exact ⟨e, he, h2.1, h2.2⟩
/-- No place has two coins. -/
theorem MapAt.apart (h : MapAt w b l) : l.Pairwise (fun x y => x.at_ ≠ y.at_) := by
  obtain ⟨es, clock, _, hs, he, _⟩ := h
  have h1 := ((stamped_iff es clock).1 hs).2.2
  have h2 : (es.toList.map kvE).Pairwise (fun p q => p.1 ≠ q.1) := by
    rw [List.pairwise_map]
    exact h1
  rw [he, List.pairwise_map] at h2
  exact h2.imp (fun {x y} hne e => hne (by show Value.agg _ = .agg _; rw [e]))
theorem MapAt.ok (h : MapAt w b l) : ∀ x ∈ l, SpOk x := by
  obtain ⟨_, _, _, _, _, ho⟩ := h
  exact ho
theorem MapAt.lt (h : MapAt w b l) : b < w.heap.size := by
  obtain ⟨_, _, hb, _⟩ := h
  exact (Array.getElem?_eq_some_iff.1 hb).1
theorem MapAt.kps {F : Nat → Prop} {w' : World} (h : MapAt w b l) (hk : Kps F w w') (hf : F b) : MapAt w' b l := by
  obtain ⟨es, clock, hb, h2⟩ := h
  exact ⟨es, clock, row_kps hb hk hf, h2⟩
theorem MapO.apart {m : Option Nat} (h : MapO w m l) : l.Pairwise (fun x y => x.at_ ≠ y.at_) := by
  cases m with
  | none => rw [show l = [] from h]; exact List.Pairwise.nil
  | some b => exact MapAt.apart h
theorem MapO.ok {m : Option Nat} (h : MapO w m l) : ∀ x ∈ l, SpOk x := by
  cases m with
  | none => rw [show l = [] from h]; simp
  | some b => exact MapAt.ok h
theorem MapO.kps {F : Nat → Prop} {w' : World} {m : Option Nat} (h : MapO w m l) (hk : Kps F w w') (hf : ∀ b, m = some b → F b) : MapO w' m l := by
  cases m with
  | none => exact h
  | some b => exact MapAt.kps h hk (hf b rfl)
theorem getC_none {p : TPt} (h : ∀ x ∈ l, x.at_ ≠ p) : getC l p = none := by
  unfold getC
  rw [List.find?_eq_none.2 (fun x hx => by simpa using h x hx)]
  rfl
theorem getC_ne {p : TPt} (h : getC l p = none) : ∀ x ∈ l, x.at_ ≠ p := by
  unfold getC at h
  rw [Option.map_eq_none_iff, List.find?_eq_none] at h
  exact fun x hx e => h x hx (by simpa using e)
theorem getC_some : ∀ {l : List TSp} {p : TPt} {j : Nat} {x : TSp}, l.Pairwise (fun x y => x.at_ ≠ y.at_) → l[j]? = some x → x.at_ = p → getC l p = some x.coin
  | y :: l, p, 0, x, _, hj, hp => by
    simp only [List.getElem?_cons_zero, Option.some.injEq] at hj
    subst hj
    simp [getC, hp]
  | y :: l, p, j + 1, x, ha, hj, hp => by
    obtain ⟨h1, h2⟩ := List.pairwise_cons.1 ha
    have hj' : l[j]? = some x := by simpa using hj
    have hne : ¬ y.at_ = p := fun e => h1 x (List.mem_of_getElem? hj') (by rw [e, hp])
    have := getC_some h2 hj' hp
    unfold getC at this ⊢
    rw [List.find?_cons_of_neg (by simpa using hne)]
    exact this
  | [], _, _, _, _, hj, _ => by simp at hj
theorem delC_idx : ∀ {l : List TSp} {p : TPt} {j : Nat} {x : TSp}, l.Pairwise (fun x y => x.at_ ≠ y.at_) → l[j]? = some x → x.at_ = p → l.eraseIdx j = delC l p
  | y :: l, p, 0, x, ha, hj, hp => by
    simp only [List.getElem?_cons_zero, Option.some.injEq] at hj
    subst hj
    obtain ⟨h1, h2⟩ := List.pairwise_cons.1 ha
    have : delC l p = l := List.filter_eq_self.2 (fun z hz => by simpa using fun e => h1 z hz (by rw [hp, e]))
    show l = (y :: l).filter _
    rw [List.filter_cons_of_neg (by simpa using hp)]
    exact this.symm
  | y :: l, p, j + 1, x, ha, hj, hp => by
    obtain ⟨h1, h2⟩ := List.pairwise_cons.1 ha
    have hj' : l[j]? = some x := by simpa using hj
    have hne : ¬ y.at_ = p := fun e => h1 x (List.mem_of_getElem? hj') (by rw [e, hp])
    have := delC_idx h2 hj' hp
    unfold delC at this ⊢
    rw [List.eraseIdx_cons_succ, this, List.filter_cons_of_pos (by simpa using hne)]
  | [], _, _, _, _, hj, _ => by simp at hj
theorem find_pt {es : Array MapEntry} (he : es.toList.map kvE = l.map enE) (ho : ∀ x ∈ l, SpOk x) (p : TPt) (hp : PtOk p) (W : World) :
    ((Instr.findKey 28 (.agg (ptC p).toArray) es.toList).run Tryd.prog W = .ok none W ∧ ∀ x ∈ l, x.at_ ≠ p) ∨
    ∃ j x, (Instr.findKey 28 (.agg (ptC p).toArray) es.toList).run Tryd.prog W = .ok (some (j, .agg (mnL x.coin).toArray)) W ∧ l[j]? = some x ∧ x.at_ = p := by
  obtain ⟨lx, hlx⟩ := pt_keyOf p hp
  rcases cm_pt_law.find W hlx es.toList (fun e hem => by
    obtain ⟨x, hx, hk, _⟩ := enE_mem he hem
    rw [hk]
    exact pt_keyOf _ (ho x hx).1) with ⟨h1, h2⟩ | ⟨j, e, h1, h2, h3⟩
  · refine .inl ⟨h1, fun x hx e => ?_⟩
    obtain ⟨en, hen, hk, _⟩ := enE_mem' he hx
    exact h2 en hen (by rw [hk, e])
  · obtain ⟨x, hx, hk, hv⟩ := enE_get he h2
    exact .inr ⟨j, x, by rw [h1, hv], hx, ptC_agg_inj (by rw [← hk, h3])⟩
theorem map_under : Tryd.prog.underlying 30 = some (.map 28 37) := by kernel_rfl
theorem check_pt (em : Bool) (p : TPt) (hp : PtOk p) (W : World) : (Instr.checkKey em 10000 28 (.agg (ptC p).toArray)).run Tryd.prog W = .ok () W := by
  obtain ⟨lx, hlx⟩ := pt_keyOf p hp
  exact cm_pt_law.check W em hlx
/-- 'v, ok := m[p]'. -/
theorem map_look {m : Option Nat} (h : MapO w m l) (p : TPt) (hp : PtOk p) :
    (Instr.lookup 30 (.map m) (.agg (ptC p).toArray) true).run Tryd.prog w = .ok (.tuple #[.agg (mnL ((getC l p).getD mnZ)).toArray, .bool (getC l p).isSome]) w := by
  cases m with
  | none =>
    obtain rfl : l = [] := h
    have hf : (Instr.findKey 28 (.agg (ptC p).toArray) []).run Tryd.prog w = .ok none w := by
      rcases find_pt (es := #[]) (l := []) rfl (by simp) p hp w with ⟨h1, _⟩ | ⟨j, x, _, h2, _⟩
      · exact h1
      · simp at h2
    simp [Instr.lookup, run_underlying map_under, check_pt _ p hp, hf, zero_money, Result.andThen, getC]
    rfl
  | some b =>
    have hap := MapAt.apart h
    obtain ⟨es, clock, hb, hs, he, ho⟩ := h
    rcases find_pt he ho p hp w with ⟨h1, h2⟩ | ⟨j, x, h1, h2, h3⟩
    · rw [getC_none h2]
      simp [Instr.lookup, run_underlying map_under, MapKept.run_getObj_map hb, check_pt _ p hp, h1, zero_money, Result.andThen]
      rfl
    · rw [getC_some hap h2 h3]
      simp [Instr.lookup, run_underlying map_under, MapKept.run_getObj_map hb, check_pt _ p hp, h1, Result.andThen]
/-- 'm[p] = c' at a place that has none. -/
theorem map_put (h : MapAt w b l) (p : TPt) (hp : PtOk p) (c : TMn) (hc : MnOk c) (hn : getC l p = none) :
    ∃ w', (Instr.mapUpdate 30 (.map (some b)) (.agg (ptC p).toArray) (.agg (mnL c).toArray)).run Tryd.prog w = .ok () w' ∧ MapAt w' b (l ++ [⟨p, c⟩]) ∧ w.grownBy w' (some b) := by
  obtain ⟨es, clock, hb, hs, he, ho⟩ := h
  rcases find_pt he ho p hp w with ⟨h1, h2⟩ | ⟨j, x, _, h2, h3⟩
  · refine ⟨setBlock w b (.map (es.push { key := .agg (ptC p).toArray, val := .agg (mnL c).toArray, born := clock }) (clock + 1)), ?_, ⟨_, _, heap_setBlock_same hb _, stamped_push hs (fun e hem => ?_), ?_, fun x hx => ?_⟩, ⟨rfl, rfl, rfl, by simp [setBlock], fun i _ hi => heap_setBlock_other hb _ (fun e => hi (by rw [e]))⟩⟩
    · simp [Instr.mapUpdate, run_underlying map_under, MapKept.run_getObj_map hb, check_pt _ p hp, h1, MapKept.run_setObj_map _ hb, Result.andThen, setBlock]
    · obtain ⟨x, hx, hk, _⟩ := enE_mem he hem
      rw [hk]
      exact fun e => h2 x hx (ptC_agg_inj e)
    · rw [Array.toList_push, List.map_append, List.map_append, he]
      rfl
    · rcases List.mem_append.1 hx with hx | hx
      · exact ho x hx
      · rw [List.mem_singleton.1 hx]
        exact ⟨hp, hc⟩
  · exact absurd h3 (getC_ne hn x (List.mem_of_getElem? h2))
/-- 'delete(m, p)'. -/
theorem map_del (h : MapAt w b l) (p : TPt) (hp : PtOk p) (ty : TypeId) :
    ∃ w', (Builtin.delete_ #[30, 28] ty #[.map (some b), .agg (ptC p).toArray]).run Tryd.prog w = .ok (.tuple #[]) w' ∧ MapAt w' b (delC l p) ∧ w.grownBy w' (some b) := by
  have hap := MapAt.apart h
  obtain ⟨es, clock, hb, hs, he, ho⟩ := h
  have hg : ∀ o, w.grownBy (setBlock w b o) (some b) := fun o => ⟨rfl, rfl, rfl, by simp [setBlock], fun i _ hi => heap_setBlock_other hb _ (fun e => hi (by rw [e]))⟩
  rcases find_pt he ho p hp w with ⟨h1, h2⟩ | ⟨j, x, h1, h2, h3⟩
  · refine ⟨setBlock w b (.map es clock), ?_, ⟨_, _, heap_setBlock_same hb _, hs, ?_, fun x hx => ho x (List.mem_filter.1 hx).1⟩, hg _⟩
    · simp [Builtin.delete_, run_underlying map_under, MapKept.run_getObj_map hb, check_pt _ p hp, h1, MapKept.run_setObj_map _ hb, Result.andThen, setBlock]
    · rw [he, delC, List.filter_eq_self.2 (fun x hx => by simpa using h2 x hx)]
  · have hjl : j < es.size := by
      have h4 := congrArg List.length he
      have h5 := (List.getElem?_eq_some_iff.1 h2).1
      simp at h4
      omega
    have hsub : (es.eraseIdxIfInBounds j).toList = es.toList.eraseIdx j := by
      unfold Array.eraseIdxIfInBounds
      rw [dif_pos hjl]
      simp
    refine ⟨setBlock w b (.map (es.eraseIdxIfInBounds j) clock), ?_, ⟨_, _, heap_setBlock_same hb _, stamped_erase hs j, ?_, fun x hx => ho x (List.mem_filter.1 hx).1⟩, hg _⟩
    · simp [Builtin.delete_, run_underlying map_under, MapKept.run_getObj_map hb, check_pt _ p hp, h1, MapKept.run_setObj_map _ hb, Result.andThen, setBlock]
    · rw [hsub, ← delC_idx hap h2 h3, Go.ChangeMaps.map_eraseIdx, Go.ChangeMaps.map_eraseIdx, he]
/-- 'len(m)'. -/
theorem map_len {m : Option Nat} (h : MapO w m l) (ty : TypeId) : (Builtin.len_ #[30] ty #[.map m]).run Tryd.prog w = .ok (.int .i64 (l.length : Int)) w := by
  cases m with
  | none =>
    obtain rfl : l = [] := h
    simp [Builtin.len_, run_underlying map_under, goInt, Result.andThen]
  | some b =>
    obtain ⟨es, clock, hb, hs, he, ho⟩ := h
    have h4 := congrArg List.length he
    simp only [List.length_map] at h4
    rw [← h4]
    simp [Builtin.len_, run_underlying map_under, MapKept.run_getObj_map hb, goInt, Result.andThen]
/-- A map that has just been made. -/
theorem map_made (w : World) : MapAt (w.alloc (.map #[] 0)) w.heap.size [] := ⟨#[], 0, heap_alloc_new w _, stamped_empty 0, rfl, by simp⟩
/-! Ranging. -/
/-- Block r goes over the map m; these are still to come. -/
def IterAt (w : World) (m : Option Nat) (r : Nat) (rest : List TSp) : Prop :=
  match m with
  | none => rest = [] ∧ w.heap[r]? = some (.mapIter none 0 #[] 0)
  | some b => ∃ es clock since seen c0, w.heap[b]? = some (.map es clock) ∧ Stamped es clock ∧ w.heap[r]? = some (.mapIter (some b) since seen c0) ∧ (∀ x ∈ es.toList, x.born < since) ∧ since ≤ c0 ∧ since ≤ clock ∧
    (leftOf es seen).toList.map kvE = rest.map enE ∧ ∀ x ∈ rest, SpOk x
theorem IterAt.kps {F : Nat → Prop} {w' : World} {m : Option Nat} {r : Nat} {rest : List TSp} (h : IterAt w m r rest) (hk : Kps F w w') (hf : ∀ b, m = some b → F b) (hr : F r) : IterAt w' m r rest := by
  cases m with
  | none => exact ⟨h.1, row_kps h.2 hk hr⟩
  | some b =>
    obtain ⟨es, clock, since, seen, c0, hb, h1, h2, h3⟩ := h
    exact ⟨es, clock, since, seen, c0, row_kps hb hk (hf b rfl), h1, row_kps h2 hk hr, h3⟩
theorem IterAt.below {w' : World} {m : Option Nat} {r : Nat} {rest : List TSp} (h : IterAt w m r rest) (hb : Below w.heap.size w w') : IterAt w' m r rest := by
  cases m with
  | none => exact ⟨h.1, row_below h.2 hb⟩
  | some b =>
    obtain ⟨es, clock, since, seen, c0, h0, h1, h2, h3⟩ := h
    exact ⟨es, clock, since, seen, c0, row_below h0 hb, h1, row_below h2 hb, h3⟩
theorem run_range_cn {m : Option Nat} (h : MapO w m l) : ∃ w', (Instr.range 30 (.map m)).run Tryd.prog w = .ok (.pointer (some ⟨w.heap.size, 0, none⟩)) w' ∧ IterAt w' m w.heap.size l ∧ Below w.heap.size w w' ∧ w'.heap.size = w.heap.size + 1 := by
  cases m with
  | none =>
    obtain rfl : l = [] := h
    exact ⟨_, run_range_nilMap w _ _ _ map_under, ⟨rfl, heap_alloc_new w _⟩, (Below.refl _ _).alloc (Nat.le_refl _) _, by simp⟩
  | some b =>
    have hlt := MapAt.lt h
    obtain ⟨es, clock, hb, hs, he, ho⟩ := h
    refine ⟨_, run_range_map w _ _ _ b es clock map_under hb, ⟨es, clock, clock, #[], clock, ?_, hs, heap_alloc_new w _, hs.1, Nat.le_refl _, Nat.le_refl _, ?_, ho⟩, (Below.refl _ _).alloc (Nat.le_refl _) _, by simp⟩
    · exact (MapKept.heap_alloc w _).2 b hlt ▸ hb
    · have e0 : leftOf es #[] = es := by
        unfold leftOf
        exact Array.filter_eq_self.2 (by simp)
      rw [e0]
      exact he
theorem left_perm {es : Array MapEntry} {seen : Array Nat} {e : MapEntry} (hn : (es.toList.map (·.born)).Nodup) (he : e ∈ (leftOf es seen).toList) :
    (leftOf es seen).toList.Perm (e :: (leftOf es (seen.push e.born)).toList) := by
  have h1 : ∀ s, (leftOf es s).toList = es.toList.filter fun x => !s.contains x.born := fun s => by
    unfold leftOf
    rw [← Array.toList_filter]
  obtain ⟨hm, hc⟩ := mem_left he
  rw [h1, h1]
  have key : ∀ L : List MapEntry, (L.map (·.born)).Nodup → e ∈ L → (L.filter fun x => !seen.contains x.born).Perm (e :: L.filter fun x => !(seen.push e.born).contains x.born) := by
    intro L
    induction L with
    | nil => intro _ h; simp at h
    | cons y L ih =>
      intro hnd hme
      rw [List.map_cons, List.nodup_cons] at hnd
      rcases List.mem_cons.1 hme with rfl | hme'
      · have : (L.filter fun x => !(seen.push e.born).contains x.born) = L.filter fun x => !seen.contains x.born := by
          apply List.filter_congr
          intro x hx
          rw [contains_push]
          have : (x.born == e.born) = false := by
            rw [beq_eq_false_iff_ne]
            exact fun h => hnd.1 (List.mem_map.2 ⟨x, hx, h⟩)
          rw [this, Bool.or_false]
        rw [List.filter_cons_of_pos (by rw [hc]; rfl), List.filter_cons_of_neg (by rw [contains_push]; simp), this]
      · have hne : (y.born == e.born) = false := by
          rw [beq_eq_false_iff_ne]
          exact fun h => hnd.1 (List.mem_map.2 ⟨e, hme', h.symm⟩)
        have ih' := ih hnd.2 hme'
        by_cases hs : seen.contains y.born = true
        · rw [List.filter_cons_of_neg (by rw [hs]; simp), List.filter_cons_of_neg (by rw [contains_push, hs]; simp)]
          exact ih'
        · have hs' : seen.contains y.born = false := by simpa using hs
          rw [List.filter_cons_of_pos (by rw [hs']; rfl), List.filter_cons_of_pos (by rw [contains_push, hs', hne]; rfl)]
          exact (ih'.cons y).trans (List.Perm.swap _ _ _)
  exact key es.toList hn hm
theorem run_next_cn {m : Option Nat} {r : Nat} {rest : List TSp} (h : IterAt w m r rest) (hrm : m ≠ some r) (ty : TypeId) :
    (rest = [] ∧ (Instr.next (.pointer (some ⟨r, 0, none⟩)) false ty).run Tryd.prog w = .ok (.tuple #[.bool false]) w) ∨
    ∃ x rest' w', rest.Perm (x :: rest') ∧ SpOk x ∧ (Instr.next (.pointer (some ⟨r, 0, none⟩)) false ty).run Tryd.prog w = .ok (.tuple #[.bool true, .agg (ptC x.at_).toArray, .agg (mnL x.coin).toArray]) w' ∧ IterAt w' m r rest' ∧ w.grownBy w' (some r) ∧ w'.heap.size = w.heap.size ∧
      (Instr.entry (.pointer (some ⟨r, 0, none⟩))).run Tryd.prog w' = .ok (.tuple #[.agg (ptC x.at_).toArray, .agg (mnL x.coin).toArray]) w' := by
  cases m with
  | none =>
    refine .inl ⟨h.1, ?_⟩
    have h2 := h.2
    simp only [Instr.next, getObj, Sem.run_bind, Sem.run, h2, Result.andThen]
    rfl
  | some b =>
    obtain ⟨es, clock, since, seen, c0, hb, hs, hr, hold, hsc, hsk, he, ho⟩ := h
    have hst := (stamped_iff es clock).1 hs
    rcases run_next_at (P := Tryd.prog) w ty r b since c0 seen es clock hr hb hold hsc with ⟨h0, hrun⟩ | ⟨e, hem, w1, hal, hrun⟩
    · refine .inl ⟨?_, hrun⟩
      have h4 := congrArg List.length he
      simp only [List.length_map, Array.length_toList, h0] at h4
      exact List.eq_nil_of_length_eq_zero h4.symm
    · obtain ⟨hm, hc⟩ := mem_left hem
      have hne : r ≠ b := fun e => hrm (by rw [e])
      have hr1 : w1.heap[r]? = some (.mapIter (some b) since seen c0) := by rcases hal with rfl | rfl <;> exact hr
      have hb1 : w1.heap[b]? = some (.map es clock) := by rcases hal with rfl | rfl <;> exact hb
      have hset := heap_set (o' := .mapIter (some b) since (seen.push e.born) clock) hr1
      have hb' : (setBlock w1 r (.mapIter (some b) since (seen.push e.born) clock)).heap[b]? = some (.map es clock) := (hset.2 b (fun e1 => hne e1.symm)).trans hb1
      have hperm := (left_perm hst.2.1 hem).map kvE
      rw [he, List.map_cons] at hperm
      -- the coin that came, and those behind it
      have hmem : kvE e ∈ rest.map enE := hperm.mem_iff.2 List.mem_cons_self
      obtain ⟨x, hx, hxe⟩ := List.mem_map.1 hmem
      obtain ⟨s, t, rfl⟩ := List.append_of_mem hx
      have hp1 : (s ++ x :: t).Perm (x :: (s ++ t)) := List.perm_middle
      have hp2 : ((s ++ t).map enE).Perm ((leftOf es (seen.push e.born)).toList.map kvE) := by
        have h5 := (hp1.map enE).symm.trans hperm
        rw [List.map_cons, hxe] at h5
        exact (List.perm_cons _).1 h5
      obtain ⟨rest', hp3, hr'⟩ : ∃ rest', (s ++ t).Perm rest' ∧ (leftOf es (seen.push e.born)).toList.map kvE = rest'.map enE := perm_map_ex hp2
      rw [kvE, enE, Prod.mk.injEq] at hxe
      refine .inr ⟨x, rest', _, hp1.trans (hp3.cons x), ho x hx, by rw [hxe.1, hxe.2]; exact hrun, ⟨es, clock, since, seen.push e.born, clock, hb', hs, hset.1, hold, hsk, hsk, hr', fun y hy => ho y (hp1.mem_iff.2 (List.mem_cons_of_mem _ (hp3.mem_iff.2 hy)))⟩, ?_, ?_, ?_⟩
      · rcases hal with rfl | rfl <;> exact ⟨rfl, rfl, rfl, by simp [setBlock], fun i _ hi => hset.2 i (fun e1 => hi (by rw [e1]))⟩
      · rcases hal with rfl | rfl <;> simp [setBlock]
      · rw [hxe.1, hxe.2]
        exact run_entry_at _ r b since seen es clock e hset.1 hb' hm hst.2.1
end
end Go.Proofs.YtgcoegbamoehfaaDoor.Sha

/-
  A value stored into a box, or into a part of a block of one's own, the new world hidden; two boxes; a box and a value as results. No conditions beyond those that each states.
-/
namespace Go.Proofs.YtgcoegbamoehfaaDoor.Sha
open Go Go.RowKit
section
variable {P : Program}
theorem setRow_grown {w : World} {g : Nat} (cs : Array Value) : w.grownBy (w.setRow g cs) (some g) := by
  refine ⟨rfl, rfl, rfl, by simp [World.setRow], fun k _ hk => ?_⟩
  simp only [World.setRow]
  rw [Array.getElem?_modify, if_neg (fun e => hk (by rw [e]))]
theorem run_store_part {w : World} (ty : TypeId) (g o : Nat) (A old C new : List Value) (T : TypeId) (v : Value) (hv : v.cells = new.toArray) (hA : A.length = o) (hlen : old.length = new.length)
    (hg : w.heap[g]? = some (.cells (A ++ old ++ C).toArray T (0, 0))) (hi : (P.info? ty).map (·.size) = some new.length) (h1 : ∀ u ∈ new, u.oneCell' = true) :
    (storeVar ty ⟨g, o, none⟩ v).run P w = .ok () (w.setRow g (A ++ new ++ C).toArray) := by
  have h := run_storeCells_at P g o T new 0 (A ++ old ++ C).toArray w hg (by simp; omega) h1
  have e : ((A ++ old ++ C).toArray.toList.take (o + 0) ++ new ++ (A ++ old ++ C).toArray.toList.drop (o + 0 + new.length)).toArray = (A ++ new ++ C).toArray := by
    congr 1
    subst hA
    simp only [Nat.add_zero]
    rw [List.append_assoc A old C, List.take_left, ← List.drop_drop, List.drop_left, ← hlen, List.drop_left]
  rw [e] at h
  cases hq : P.info? ty with
  | none => simp [hq] at hi
  | some i =>
    have hs : i.size = new.length := by simpa [hq] using hi
    simp [storeVar, sizeOf, typeInfo, hq, hv, hs]
    simpa using h
theorem wp_store_part {op : Oper} {a : Act} {w : World} {K : Act → World → Prop} {Q : Exit → Act → World → Prop} (ty : TypeId) (x y : Operand) (ho : op.op = .store ty x y)
    (g o : Nat) (A old C new : List Value) (T : TypeId) (v : Value) (hx : a.eval x = .pointer (some ⟨g, o, none⟩)) (hy : a.eval y = v) (hv : v.cells = new.toArray) (hA : A.length = o) (hlen : old.length = new.length)
    (hg : w.heap[g]? = some (.cells (A ++ old ++ C).toArray T (0, 0))) (hi : (P.info? ty).map (·.size) = some new.length) (h1 : ∀ u ∈ new, u.oneCell' = true)
    (h : ∀ w', w'.heap[g]? = some (.cells (A ++ new ++ C).toArray T (0, 0)) → w.grownBy w' (some g) → K (a.put op.dst undef) w') : op.wp P a w K Q := by
  unfold Oper.wp execOp
  simp only [ho, hx, hy, Instr.storeAt, Instr.sureAddr, Sem.run_bind, Sem.run_pure, Result.andThen_ok, run_store_part ty g o A old C new T v hv hA hlen hg hi h1]
  exact h _ (setRow_heap _ _ _ _ _ _ hg) (setRow_grown _)
theorem wpList_store_part {ops : Array Oper} {rest : List Oper} {op : Oper} {a : Act} {w : World} {Q : Exit → Act → World → Prop} (hgd : op.guard = none) (ty : TypeId) (x y : Operand) (ho : op.op = .store ty x y)
    (g o : Nat) (A old C new : List Value) (T : TypeId) (v : Value) (hx : a.eval x = .pointer (some ⟨g, o, none⟩)) (hy : a.eval y = v) (hv : v.cells = new.toArray) (hA : A.length = o) (hlen : old.length = new.length)
    (hg : w.heap[g]? = some (.cells (A ++ old ++ C).toArray T (0, 0))) (hi : (P.info? ty).map (·.size) = some new.length) (h1 : ∀ u ∈ new, u.oneCell' = true)
    (h : ∀ w', w'.heap[g]? = some (.cells (A ++ new ++ C).toArray T (0, 0)) → w.grownBy w' (some g) → wpList P ops Q rest (a.put op.dst undef) w') : wpList P ops Q (op :: rest) a w :=
  wpList_plain hgd fun _ hK => wp_store_part ty x y ho g o A old C new T v hx hy hv hA hlen hg hi h1 (fun w' a1 a2 => hK _ _ (h w' a1 a2))
end
theorem row_far {w w' : World} {g : Nat} {q : Option Nat} {o : Obj} (h : w.heap[g]? = some o) (hg : w.grownBy w' q) (hq : q ≠ some g) : w'.heap[g]? = some o := by
  rw [hg.block g (Array.getElem?_eq_some_iff.1 h).1 (fun e => hq e.symm)]
  exact h
theorem gr_low {w0 w w' : World} {r : Option Nat} {g : Nat} (h : w0.grownBy w r) (hg : w.grownBy w' (some g)) (hq : w0.heap.size ≤ g) : w0.grownBy w' r := grown_over h hg (.inr ⟨g, rfl, hq⟩)
theorem own_off {w : World} {base n k : Nat} {e : TypeId} {v : Value} {xs : List Value} {size : Nat} (h : w.ownsRow base e size v n xs) (hk : k < base) : Off v (some k) := fun sp m cap hv _ e => by
  have h1 := (h.lt sp.block (by rw [hv]; rfl)).1
  have := Option.some.inj e
  omega
section
variable {P : Program}
theorem wpList_store_whole {ops : Array Oper} {rest : List Oper} {op : Oper} {a : Act} {w : World} {Q : Exit → Act → World → Prop} (hgd : op.guard = none) (ty : TypeId) (x y : Operand) (ho : op.op = .store ty x y)
    (g : Nat) (old new : List Value) (T : TypeId) (hx : a.eval x = .pointer (some ⟨g, 0, none⟩)) (hy : a.eval y = .agg new.toArray) (hlen : old.length = new.length) (hrow : w.heap[g]? = some (.cells old.toArray T (0, 0)))
    (hi : (P.info? ty).map (·.size) = some new.length) (h1 : new.toArray.all (·.oneCell') = true)
    (h : ∀ w', w'.heap[g]? = some (.cells new.toArray T (0, 0)) → w.grownBy w' (some g) → wpList P ops Q rest (a.put op.dst undef) w') : wpList P ops Q (op :: rest) a w :=
  wpList_store_row hgd ty x y ho g new.toArray hx hy T old.toArray hrow (by simpa using hi) (by simpa using hlen) h1 (h _ (setRow_heap _ _ _ _ _ _ hrow) (setRow_grown _))
theorem wp_store_whole {op : Oper} {a : Act} {w : World} {K : Act → World → Prop} {Q : Exit → Act → World → Prop} (ty : TypeId) (x y : Operand) (ho : op.op = .store ty x y)
    (g : Nat) (old new : List Value) (T : TypeId) (hx : a.eval x = .pointer (some ⟨g, 0, none⟩)) (hy : a.eval y = .agg new.toArray) (hlen : old.length = new.length) (hrow : w.heap[g]? = some (.cells old.toArray T (0, 0)))
    (hi : (P.info? ty).map (·.size) = some new.length) (h1 : new.toArray.all (·.oneCell') = true)
    (h : ∀ w', w'.heap[g]? = some (.cells new.toArray T (0, 0)) → w.grownBy w' (some g) → K (a.put op.dst undef) w') : op.wp P a w K Q :=
  wp_store_row ty x y ho g new.toArray hx hy T old.toArray hrow (by simpa using hi) (by simpa using hlen) h1 (h _ (setRow_heap _ _ _ _ _ _ hrow) (setRow_grown _))
end
/-- Two boxes. -/
theorem boxes_two (w : World) (x y : Array Value) (T : TypeId) :
    Below w.heap.size w ((w.alloc (.cells x T (0, 0))).alloc (.cells y T (0, 0)))
    ∧ ((w.alloc (.cells x T (0, 0))).alloc (.cells y T (0, 0))).heap[w.heap.size]? = some (.cells x T (0, 0))
    ∧ ((w.alloc (.cells x T (0, 0))).alloc (.cells y T (0, 0))).heap[w.heap.size + 1]? = some (.cells y T (0, 0)) := by
  refine ⟨((Below.refl _ _).alloc (Nat.le_refl _) _).alloc (by simp) _, ?_, ?_⟩
  · have h1 := heap_alloc_new w (.cells x T (0, 0))
    exact row_below h1 ((Below.refl _ _).alloc (Nat.le_refl _) (.cells y T (0, 0)))
  · have h1 := heap_alloc_new (w.alloc (.cells x T (0, 0))) (.cells y T (0, 0))
    rw [World.size_alloc] at h1
    exact h1
theorem results_row_tmp {P : Program} {fn : Func} {p u : Tmp} {ty : TypeId} (h : fn.results = #[.cell p ty, .tmp u]) (tmps : Array Value) (w : World) (g : Nat) (t : TypeId) (cs : Array Value) (fr : Nat × Nat) (d : TypeDesc)
    (hx : tmps.getD p undef = .pointer (some ⟨g, 0, none⟩)) (hg : w.heap[g]? = some (.cells cs t fr)) (hu : P.underlying ty = some d) (hd : (match d with | .struct _ | .array _ _ => true | _ => false) = true) (hi : (P.info? ty).map (·.size) = some cs.size) :
    (results fn tmps).run P w = .ok (.tuple #[.agg cs, tmps.getD u undef]) w := by
  rw [results_cell_tmp h, hx]
  simp [asAddr, Result.andThen, run_loadVar_row (P := P) w g t ty cs fr d hg hu hd hi]
end Go.Proofs.YtgcoegbamoehfaaDoor.Sha

/-
  A set of coins in memory: how many, what is at a place. Nothing that was there turns. Conditions: the set lies where the pointer says; a place as the model has it.
-/
namespace Go.Proofs.YtgcoegbamoehfaaDoor.Sha
open Go Go.RowKit
theorem yieldsIf_lookup {P : Program} {ops : Array Oper} {S : World → Prop} {op : Oper} {a : Act} (hw : Region.wanted op (yielded ops a.tmps) = true) (t : TypeId) (x y : Operand) (c : Bool) (ho : op.op = .lookup t x y c)
    (u v z : Value) (hx : a.eval x = u) (hy : a.eval y = v) (h : ∀ w, S w → (Instr.lookup t u v c).run P w = .ok z w) : YieldsIf P ops S op z a :=
  .inl ⟨hw, fun w hw' => by
    unfold execOp
    simp [ho, hx, hy, h w hw', Sem.run_bind, Result.andThen]⟩
/-- A set's box: its map. -/
structure SetAt (w : World) (a : Nat) (m : Option Nat) (l : List TSp) : Prop where
  box : w.heap[a]? = some (.cells #[.map m] 32 (0, 0))
  map : MapO w m l
section
variable {w w' : World} {a : Nat} {m : Option Nat} {l : List TSp}
theorem SetAt.kps {F : Nat → Prop} (h : SetAt w a m l) (hk : Kps F w w') (ha : F a) (hf : ∀ b, m = some b → F b) : SetAt w' a m l := ⟨row_kps h.box hk ha, h.map.kps hk hf⟩
theorem MapO.lt (h : MapO w m l) : ∀ b, m = some b → b < w.heap.size := fun b e => by
  subst e
  exact MapAt.lt h
theorem SetAt.below (h : SetAt w a m l) (hb : Below w.heap.size w w') : SetAt w' a m l :=
  h.kps (F := fun k => k < w.heap.size) (Kps.below hb fun _ h _ => h) (Array.getElem?_eq_some_iff.1 h.box).1 h.map.lt
theorem SetAt.cell (h : SetAt w a m l) : w.cell? ⟨a, 0, none⟩ = some (.map m) := by rw [cell_of_row _ _ _ _ _ _ h.box]; rfl
theorem SetAt.ne (h : SetAt w a m l) : m ≠ some a := fun e => by
  subst e
  obtain ⟨es, clock, hb, _⟩ := (show MapAt w a l from h.map)
  rw [h.box] at hb
  cases hb
theorem getD_ok (h : ∀ x ∈ l, SpOk x) (p : TPt) : MnOk ((getC l p).getD mnZ) := by
  unfold getC
  cases hf : l.find? (fun x => decide (x.at_ = p)) with
  | none => exact mnZ_ok
  | some x => exact (h x (List.mem_of_find?_eq_some hf)).2
end
theorem SetAt.rowne {w : World} {a : Nat} {m : Option Nat} {l : List TSp} (hs : SetAt w a m l) {x : Nat} {cs : Array Value} {T : TypeId} {fr : Nat × Nat} (hx : w.heap[x]? = some (.cells cs T fr)) : m ≠ some x := by
  intro e
  have hmap := hs.map
  rw [e] at hmap
  obtain ⟨_, _, h1, _⟩ := hmap
  rw [hx] at h1
  cases h1
theorem SetAt.boxne {w : World} {a : Nat} {m : Option Nat} {l : List TSp} (hs : SetAt w a m l) {x : Nat} {cs : Array Value} {T : TypeId} {fr : Nat × Nat} (hT : T ≠ 32) (hx : w.heap[x]? = some (.cells cs T fr)) : x ≠ a := by
  intro e
  rw [e, hs.box] at hx
  cases hx
  exact hT rfl
set_option maxRecDepth 100000 in
theorem setlen_any (w : World) (a : Nat) (m : Option Nat) (l : List TSp) (h : SetAt w a m l) :
    Calls Tryd.prog 14 #[.pointer (some ⟨a, 0, none⟩)] w fun e w' => e = .returned (.int .i64 (l.length : Int)) ∧ w = w' := by
  have c0 := h.cell
  have hq := fun ty => map_len h.map ty
  clear h
  go_enter Tryd.func14, Tryd.ntmps14
  go_wp2
  go_ret
  exact ⟨rfl, rfl⟩
set_option maxHeartbeats 2000000 in
set_option maxRecDepth 100000 in
theorem setget_any (w : World) (a : Nat) (m : Option Nat) (l : List TSp) (p : TPt) (hs : SetAt w a m l) (hp : PtOk p) :
    Calls Tryd.prog 16 #[.pointer (some ⟨a, 0, none⟩), .agg (ptC p).toArray] w fun e w' => e = .returned (.tuple #[.agg (mnL ((getC l p).getD mnZ)).toArray, .bool (getC l p).isSome]) ∧ Below w.heap.size w w' := by
  have HS := Lib.hid hs
  have PSZ : Hid ((ptC p).toArray.size = 33) := ptC_size hp
  have CK : Hid (MnOk ((getC l p).getD mnZ)) := getD_ok hs.map.ok p
  obtain ⟨c, hc⟩ : ∃ c, c = (getC l p).getD mnZ := ⟨_, rfl⟩
  obtain ⟨b, hb⟩ : ∃ b, b = (getC l p).isSome := ⟨_, rfl⟩
  rw [← hc] at CK
  have LK : Hid (∀ W, Below w.heap.size w W → (Instr.lookup 30 (.map m) (.agg (ptC p).toArray) true).run Tryd.prog W = .ok (.tuple #[.agg (mnL c).toArray, .bool b]) W) := fun W hW => by
    rw [hc, hb]
    exact map_look (hs.below hW).map p hp
  rw [← hc, ← hb]
  have CSZ : Hid ((mnL c).toArray.size = 35) := mnL_size CK.out
  have CLN : Hid ((mnL c).length = 35) := mnL_length CK.out
  have CONE : Hid ((mnL c).toArray.all (·.oneCell') = true) := mnL_all c
  obtain ⟨cm, hcm⟩ : ∃ cm, cm = mnL c := ⟨_, rfl⟩
  obtain ⟨cp, hcp⟩ : ∃ cp, cp = ptC p := ⟨_, rfl⟩
  rw [← hcm] at LK CSZ CLN CONE ⊢
  rw [← hcp] at LK PSZ ⊢
  clear hs hp hc hb hcm hcp
  go_enter Tryd.func16, Tryd.ntmps16
  go_upto_region 1 with fail
  have f3 := row_below (heap_alloc_new w (.cells cp.toArray 28 (0, 0))) ((Below.refl _ _).alloc (Nat.le_refl _) (.cells (mnL mnZ).toArray 37 (0, 0)))
  have f4 := heap_alloc_new (w.alloc (.cells cp.toArray 28 (0, 0))) (.cells (mnL mnZ).toArray 37 (0, 0))
  have b0 := ((Below.refl w.heap.size w).alloc (Nat.le_refl _) (.cells cp.toArray 28 (0, 0))).alloc (by simp) (.cells (mnL mnZ).toArray 37 (0, 0))
  rw [World.size_alloc] at f4
  generalize hw1 : World.alloc _ _ = w1
  have e1 : (w.alloc (.cells cp.toArray 28 (0, 0))).alloc (.cells (mnL mnZ).toArray 37 (0, 0)) = w1 := hw1
  rw [e1] at f3 f4 b0
  obtain ⟨g3, hg3⟩ : ∃ g3, g3 = w.heap.size := ⟨_, rfl⟩
  have G3 : Hid (w.heap.size ≤ g3) := by show _ ≤ _; rw [hg3]; exact Nat.le_refl _
  rw [← hg3] at f3 f4 ⊢
  have F3 := Lib.hid f3
  have F4 := Lib.hid f4
  have B0 := Lib.hid b0
  have HS1 := Lib.hid (HS.out.below b0)
  have LK1 : Hid (∀ W, Below w1.heap.size w1 W → (Instr.lookup 30 (.map m) (.agg cp.toArray) true).run Tryd.prog W = .ok (.tuple #[.agg cm.toArray, .bool b]) W) := fun W hW => LK.out W (B0.out.trans (hW.mono B0.out.size))
  clear f3 f4 b0 hw1 e1 hg3
  refine wp_region_held_drew (S := (fun w' => Below w1.heap.size w1 w')) (by kernel_rfl) (Below.drew (Below.refl _ _)) (fun hHeld => ?_)
  generalize hwd : w1.drew = wd at  hHeld ⊢
  clear hwd
  refine held_take (i := 0) (v := (.pointer (some ⟨a, 0, none⟩))) rfl (by kernel_rfl) (by kernel_rfl) (by kernel_rfl) (fun _ _ _ h => h) (Or.inl ⟨by rfl, fun w' _ => by kernel_rfl⟩) hHeld ?_
  go_frame
  refine held_take (i := 1) (v := (.pointer (some ⟨a, 0, none⟩))) rfl (by kernel_rfl) (by kernel_rfl) (by kernel_rfl) (fun _ _ _ h => h) (Or.inl ⟨by rfl, fun w' _ => by kernel_rfl⟩) hHeld ?_
  go_frame
  refine held_take (i := 2) (v := (.pointer (some ⟨a, 0, none⟩))) rfl (by kernel_rfl) (by kernel_rfl) (by kernel_rfl) (fun _ _ _ h => h) (Or.inl ⟨by rfl, fun w' _ => by kernel_rfl⟩) hHeld ?_
  go_frame
  refine held_take (i := 3) (v := (.map m)) rfl (by kernel_rfl) (by kernel_rfl) (by kernel_rfl) (fun _ _ _ h => h) (yieldsIf_load_one (by rfl) 30 (.tmp 11) rfl a (0) rfl _ _ (fun w' hw' => (HS1.out.below hw').cell) Tryd.underlying30 rfl) hHeld ?_
  go_frame
  refine held_take (i := 4) (v := (.agg cp.toArray)) rfl (by kernel_rfl) (by kernel_rfl) (by kernel_rfl) (fun _ _ _ h => h) (yieldsIf_load_row (by rfl) 28 (.tmp 3) rfl g3 rfl 28 cp.toArray (0, 0) _ (fun w' hw' => row_below F3.out hw') Tryd.underlying28 rfl (by rw [PSZ.out]; kernel_rfl)) hHeld ?_
  go_frame
  refine held_take (i := 5) (v := (.tuple #[.agg cm.toArray, .bool b])) rfl (by kernel_rfl) (by kernel_rfl) (by kernel_rfl) (fun _ _ _ h => h) (yieldsIf_lookup (by rfl) 30 (.tmp 12) (.tmp 13) true rfl _ _ _ rfl rfl (fun w' hw' => LK1.out w' hw')) hHeld ?_
  go_frame
  refine held_take (i := 6) (v := (.tuple #[.agg cm.toArray, .bool b])) rfl (by kernel_rfl) (by kernel_rfl) (by kernel_rfl) (fun _ _ _ h => h) (Or.inl ⟨by rfl, fun w' _ => by kernel_rfl⟩) hHeld ?_
  go_frame
  refine held_take (i := 7) (v := (.agg cm.toArray)) rfl (by kernel_rfl) (by kernel_rfl) (by kernel_rfl) (fun _ _ _ h => h) (Or.inl ⟨by rfl, fun w' _ => by kernel_rfl⟩) hHeld ?_
  go_frame
  refine held_take (i := 8) (v := (.bool b)) rfl (by kernel_rfl) (by kernel_rfl) (by kernel_rfl) (fun _ _ _ h => h) (Or.inl ⟨by rfl, fun w' _ => by kernel_rfl⟩) hHeld ?_
  go_frame
  refine wpAnyH_ready (rs := [9]) (by kernel_rfl) (by simp) (held_cons rfl (fun K hK => ?_) AllReadyH.nil)
  go_simp
  have nf := heap_alloc_new wd (.cells (mnL mnZ).toArray 37 (0, 0))
  have bb := (Below.refl wd.heap.size wd).alloc (Nat.le_refl _) (.cells (mnL mnZ).toArray 37 (0, 0))
  obtain ⟨gv1, hgv1⟩ : ∃ g, g = wd.heap.size := ⟨_, rfl⟩
  have GF6 : Hid (w1.heap.size ≤ gv1) := by show _ ≤ _; rw [hgv1]; exact hHeld.size
  generalize hqv1 : World.alloc _ _ = v1
  have ev1 : wd.alloc (.cells (mnL mnZ).toArray 37 (0, 0)) = v1 := hqv1
  rw [ev1] at nf bb
  rw [← hgv1] at nf ⊢
  have F6 := Lib.hid nf
  have hv1 := hHeld.trans (bb.mono hHeld.size)
  clear nf bb hqv1 ev1 hgv1 hHeld
  refine hK.out _ _ hv1 (fun hHeld => ?_)
  clear hK K hv1
  refine wpAnyH_ready (rs := [10]) (by kernel_rfl) (by simp) (held_cons rfl (fun K hK => ?_) AllReadyH.nil)
  rw [if_pos (by rfl)]
  refine wp_store_whole 37 (.tmp 6) (.tmp 15) rfl gv1 (mnL mnZ) cm 37 rfl rfl (by rw [mnL_length mnZ_ok, CLN.out]) F6.out (by rw [CLN.out]; kernel_rfl) (CONE.out) ?_
  intro v2 q1 q2
  have F6 := Lib.hid q1
  have hv2 := hHeld.grown q2 hHeld.size (fun k hk => by cases hk; exact GF6.out)
  clear q1 q2 hHeld
  go_frame
  refine hK.out _ _ hv2 (fun hHeld => ?_)
  clear hK K hv2
  refine held_take (i := 11) (v := (.bool b)) rfl (by kernel_rfl) (by kernel_rfl) (by kernel_rfl) (fun _ _ _ h => h) (Or.inl ⟨by rfl, fun w' _ => by kernel_rfl⟩) hHeld ?_
  go_frame
  refine wpAnyH_done (by kernel_rfl) ?_ _
  have B1 := Lib.hid (B0.out.trans (hHeld.mono B0.out.size))
  have F4 := Lib.hid (row_below F4.out hHeld)
  clear hHeld
  go_wp2_with ((with_reducible show wpList _ _ _ _ _ _); first | (refine wpList_load_row rfl 37 (.tmp 6) rfl gv1 rfl 37 cm.toArray (0, 0) _ F6.out Tryd.underlying37 rfl (by rw [CSZ.out]; kernel_rfl) ?_; go_frame) | (refine wpList_store_row rfl 37 (.tmp 4) (.tmp 17) rfl (g3 + 1) cm.toArray rfl rfl 37 _ F4.out (by rw [CSZ.out]; kernel_rfl) (by rw [CSZ.out]; rfl) CONE.out ?_; go_frame))
  refine bodyPost_ret (results_row_tmp rfl _ _ (g3 + 1) 37 cm.toArray (0, 0) _ rfl (setRow_heap _ _ _ _ _ _ F4.out) Tryd.underlying37 rfl (by rw [CSZ.out]; kernel_rfl)) rfl ?_
  exact ⟨rfl, below_setRow B1.out (by have := G3.out; omega) _⟩
end Go.Proofs.YtgcoegbamoehfaaDoor.Sha

/-
  A map of any keys and values: what is found, put (a new key, or one that is there), taken away, counted; places of coins, and digests, as keys. Conditions: the keys are as the model has them.
-/
namespace Go.Proofs.YtgcoegbamoehfaaDoor.Sha
open Go Go.RowKit Go.MapKept
open Go.ChangeMaps (setBlock heap_setBlock_same heap_setBlock_other)
/-- What a map's types have to give: keys a of α as values kf a, values b of β as vf b; z: the zero value. -/
structure MTy (α β : Type) (kT vT mT : TypeId) (kf : α → Value) (vf : β → Value) (ok : α → Prop) (z : β) : Prop where
  law : WideMaps.KeyLaw Tryd.prog kT
  und : Tryd.prog.underlying mT = some (.map kT vT)
  key : ∀ a, ok a → ∃ l, keyOf Tryd.prog kT (kf a) = some l
  inj : ∀ a b, kf a = kf b → a = b
  zero : ∀ w, (zeroValue vT).run Tryd.prog w = .ok (vf z) w
/-- Block b is a map of these entries. -/
def MpAt {α β : Type} (kf : α → Value) (vf : β → Value) (ok : α → Prop) (w : World) (b : Nat) (l : List (α × β)) : Prop :=
  ∃ es clock, w.heap[b]? = some (.map es clock) ∧ Stamped es clock ∧ es.toList.map kvE = l.map (fun x => (kf x.1, vf x.2)) ∧ ∀ x ∈ l, ok x.1
section
variable {α β : Type} [DecidableEq α]
def getG (l : List (α × β)) (a : α) : Option β := (l.find? (fun x => decide (x.1 = a))).map (·.2)
def delG (l : List (α × β)) (a : α) : List (α × β) := l.filter (fun x => !decide (x.1 = a))
def putG (l : List (α × β)) (a : α) (b : β) : List (α × β) := if (getG l a).isSome then l.map (fun x => if x.1 = a then (a, b) else x) else l ++ [(a, b)]
theorem getG_none {l : List (α × β)} {a : α} (h : ∀ x ∈ l, x.1 ≠ a) : getG l a = none := by
  unfold getG
  rw [List.find?_eq_none.2 (fun x hx => by simpa using h x hx)]
  rfl
theorem getG_ne {l : List (α × β)} {a : α} (h : getG l a = none) : ∀ x ∈ l, x.1 ≠ a := by
  unfold getG at h
  rw [Option.map_eq_none_iff, List.find?_eq_none] at h
  exact fun x hx e => h x hx (by simpa using e)
theorem getG_mem {l : List (α × β)} {a : α} {b : β} (h : getG l a = some b) : (a, b) ∈ l := by
  unfold getG at h
  obtain ⟨x, hx, rfl⟩ := Option.map_eq_some_iff.1 h
  have h1 := List.find?_some hx
  have h2 := List.mem_of_find?_eq_some hx
  have e : x.1 = a := by simpa using h1
  rw [← e]
  exact h2
theorem getG_some : ∀ {l : List (α × β)} {a : α} {j : Nat} {x : α × β}, l.Pairwise (fun x y => x.1 ≠ y.1) → l[j]? = some x → x.1 = a → getG l a = some x.2
  | y :: l, p, 0, x, _, hj, hp => by
    simp only [List.getElem?_cons_zero, Option.some.injEq] at hj
    subst hj
    simp [getG, hp]
  | y :: l, p, j + 1, x, ha, hj, hp => by
    obtain ⟨h1, h2⟩ := List.pairwise_cons.1 ha
    have hj' : l[j]? = some x := by simpa using hj
    have hne : ¬ y.1 = p := fun e => h1 x (List.mem_of_getElem? hj') (by rw [e, hp])
    have := getG_some h2 hj' hp
    unfold getG at this ⊢
    rw [List.find?_cons_of_neg (by simpa using hne)]
    exact this
  | [], _, _, _, _, hj, _ => by simp at hj
theorem delG_idx : ∀ {l : List (α × β)} {a : α} {j : Nat} {x : α × β}, l.Pairwise (fun x y => x.1 ≠ y.1) → l[j]? = some x → x.1 = a → l.eraseIdx j = delG l a
  | y :: l, p, 0, x, ha, hj, hp => by
    simp only [List.getElem?_cons_zero, Option.some.injEq] at hj
    subst hj
    obtain ⟨h1, h2⟩ := List.pairwise_cons.1 ha
    have : delG l p = l := List.filter_eq_self.2 (fun z hz => by simpa using fun e => h1 z hz (by rw [hp, e]))
    show l = (y :: l).filter _
    rw [List.filter_cons_of_neg (by simpa using hp)]
    exact this.symm
  | y :: l, p, j + 1, x, ha, hj, hp => by
    obtain ⟨h1, h2⟩ := List.pairwise_cons.1 ha
    have hj' : l[j]? = some x := by simpa using hj
    have hne : ¬ y.1 = p := fun e => h1 x (List.mem_of_getElem? hj') (by rw [e, hp])
    have := delG_idx h2 hj' hp
    unfold delG at this ⊢
    rw [List.eraseIdx_cons_succ, this, List.filter_cons_of_pos (by simpa using hne)]
  | [], _, _, _, _, hj, _ => by simp at hj
theorem delG_none {l : List (α × β)} {a : α} (h : getG l a = none) : delG l a = l := List.filter_eq_self.2 (fun x hx => by simpa using getG_ne h x hx)
theorem getG_nil (a : α) : getG ([] : List (α × β)) a = none := rfl
theorem getG_push {l : List (α × β)} {a q : α} {b : β} (h : getG l a = none) : getG (l ++ [(a, b)]) q = if q = a then some b else getG l q := by
  unfold getG
  rw [List.find?_append]
  by_cases hq : q = a
  · subst hq
    have := List.find?_eq_none.2 (fun x hx => by simpa using getG_ne h x hx : ∀ x ∈ l, ¬ (decide (x.1 = q)) = true)
    rw [this]
    simp
  · rw [if_neg hq]
    have : List.find? (fun x => decide (x.1 = q)) [(a, b)] = none := by
      rw [List.find?_eq_none]
      intro x hx
      rw [List.mem_singleton.1 hx]
      simpa using fun e => hq (Eq.symm e)
    rw [this, Option.or_none]
theorem getG_del {l : List (α × β)} {a q : α} : getG (delG l a) q = if q = a then none else getG l q := by
  by_cases hq : q = a
  · subst hq
    rw [if_pos rfl]
    refine getG_none fun x hx => ?_
    have := (List.mem_filter.1 hx).2
    simpa using this
  · rw [if_neg hq]
    unfold getG delG
    rw [List.find?_filter]
    congr 1
    congr 1
    funext x
    by_cases hx : x.1 = q
    · simp [hx, hq]
    · simp [hx]
theorem getG_putmap {l : List (α × β)} {a q : α} {b : β} : getG (l.map (fun x => if x.1 = a then (a, b) else x)) q = if q = a then (getG l a).map (fun _ => b) else getG l q := by
  induction l with
  | nil => simp [getG]
  | cons y l ih =>
    unfold getG at ih ⊢
    rw [List.map_cons]
    by_cases hy : y.1 = a
    · rw [if_pos hy]
      by_cases hq : q = a
      · subst hq
        simp [hy]
      · rw [if_neg hq] at ih ⊢
        rw [List.find?_cons_of_neg (by simpa using fun e => hq (Eq.symm e)), List.find?_cons_of_neg (by simpa [hy] using fun e => hq (Eq.symm e)), ih]
    · rw [if_neg hy]
      by_cases hq : q = a
      · subst hq
        rw [if_pos rfl] at ih ⊢
        rw [List.find?_cons_of_neg (by simpa using hy), List.find?_cons_of_neg (by simpa using hy), ih]
      · rw [if_neg hq] at ih ⊢
        by_cases hyq : y.1 = q
        · simp [hyq]
        · rw [List.find?_cons_of_neg (by simpa using hyq), List.find?_cons_of_neg (by simpa using hyq), ih]
theorem getG_put {l : List (α × β)} {a q : α} {b : β} : getG (putG l a b) q = if q = a then some b else getG l q := by
  unfold putG
  cases h : getG l a with
  | none => simpa using getG_push h
  | some c => simp [getG_putmap, h]
variable {kT vT mT : TypeId} {kf : α → Value} {vf : β → Value} {ok : α → Prop} {z : β} {w : World} {b : Nat} {l : List (α × β)}
omit [DecidableEq α] in
theorem gm_get {es : Array MapEntry} (h : es.toList.map kvE = l.map (fun x => (kf x.1, vf x.2))) {j : Nat} {e : MapEntry} (hj : es.toList[j]? = some e) : ∃ x, l[j]? = some x ∧ e.key = kf x.1 ∧ e.val = vf x.2 := by
  have h1 := congrArg (·[j]?) h
  simp only [List.getElem?_map, hj, Option.map_some] at h1
  cases hx : l[j]? with
  | none => simp [hx] at h1
  | some x =>
    rw [hx, Option.map_some, Option.some.injEq, kvE, Prod.mk.injEq] at h1
    exact ⟨x, rfl, h1.1, h1.2⟩
omit [DecidableEq α] in
theorem gm_mem {es : Array MapEntry} (h : es.toList.map kvE = l.map (fun x => (kf x.1, vf x.2))) {e : MapEntry} (he : e ∈ es.toList) : ∃ x ∈ l, e.key = kf x.1 ∧ e.val = vf x.2 := by
  obtain ⟨j, hj⟩ := List.getElem?_of_mem he
  obtain ⟨x, hx, h1⟩ := gm_get h hj
  exact ⟨x, List.mem_of_getElem? hx, h1⟩
omit [DecidableEq α] in
theorem gm_mem' {es : Array MapEntry} (h : es.toList.map kvE = l.map (fun x => (kf x.1, vf x.2))) {x : α × β} (hx : x ∈ l) : ∃ e ∈ es.toList, e.key = kf x.1 ∧ e.val = vf x.2 := by
  have h1 : (kf x.1, vf x.2) ∈ es.toList.map kvE := by rw [h]; exact List.mem_map.2 ⟨x, hx, rfl⟩
  obtain ⟨e, he, h2⟩ := List.mem_map.1 h1
  rw [kvE, Prod.mk.injEq] at h2
  exact ⟨e, he, h2.1, h2.2⟩
omit [DecidableEq α] in
/-- No key has two values. -/
theorem MpAt.apart (h : MpAt kf vf ok w b l) : l.Pairwise (fun x y => x.1 ≠ y.1) := by
  obtain ⟨es, clock, _, hs, he, _⟩ := h
  have h1 := ((stamped_iff es clock).1 hs).2.2
  have h2 : (es.toList.map kvE).Pairwise (fun p q => p.1 ≠ q.1) := by
    rw [List.pairwise_map]
    exact h1
  rw [he, List.pairwise_map] at h2
  exact h2.imp (fun {x y} hne e => hne (by show kf _ = kf _; rw [e]))
omit [DecidableEq α] in
theorem MpAt.oks (h : MpAt kf vf ok w b l) : ∀ x ∈ l, ok x.1 := by
  obtain ⟨_, _, _, _, _, ho⟩ := h
  exact ho
omit [DecidableEq α] in
theorem MpAt.lt (h : MpAt kf vf ok w b l) : b < w.heap.size := by
  obtain ⟨_, _, hb, _⟩ := h
  exact (Array.getElem?_eq_some_iff.1 hb).1
omit [DecidableEq α] in
theorem MpAt.kps {F : Nat → Prop} {w' : World} (h : MpAt kf vf ok w b l) (hk : Kps F w w') (hf : F b) : MpAt kf vf ok w' b l := by
  obtain ⟨es, clock, hb, h2⟩ := h
  exact ⟨es, clock, row_kps hb hk hf, h2⟩
omit [DecidableEq α] in
theorem MpAt.below {w' : World} (h : MpAt kf vf ok w b l) (hb : Below w.heap.size w w') : MpAt kf vf ok w' b l := by
  obtain ⟨es, clock, h1, h2⟩ := h
  exact ⟨es, clock, row_below h1 hb, h2⟩
omit [DecidableEq α] in
/-- A map's block is no block of cells. -/
theorem MpAt.ne (h : MpAt kf vf ok w b l) {x : Nat} {cs : Array Value} {T : TypeId} {fr : Nat × Nat} (hx : w.heap[x]? = some (.cells cs T fr)) : x ≠ b := by
  rintro rfl
  obtain ⟨es, clock, h1, _⟩ := h
  rw [h1] at hx
  cases hx
omit [DecidableEq α] in
theorem gm_find (M : MTy α β kT vT mT kf vf ok z) {es : Array MapEntry} (he : es.toList.map kvE = l.map (fun x => (kf x.1, vf x.2))) (ho : ∀ x ∈ l, ok x.1) (a : α) (ha : ok a) (W : World) :
    ((Instr.findKey kT (kf a) es.toList).run Tryd.prog W = .ok none W ∧ ∀ x ∈ l, x.1 ≠ a) ∨
    ∃ j x, (Instr.findKey kT (kf a) es.toList).run Tryd.prog W = .ok (some (j, vf x.2)) W ∧ l[j]? = some x ∧ x.1 = a := by
  obtain ⟨lx, hlx⟩ := M.key a ha
  rcases M.law.find W hlx es.toList (fun e hem => by
    obtain ⟨x, hx, hk, _⟩ := gm_mem he hem
    rw [hk]
    exact M.key _ (ho x hx)) with ⟨h1, h2⟩ | ⟨j, e, h1, h2, h3⟩
  · refine .inl ⟨h1, fun x hx e => ?_⟩
    obtain ⟨en, hen, hk, _⟩ := gm_mem' he hx
    exact h2 en hen (by rw [hk, e])
  · obtain ⟨x, hx, hk, hv⟩ := gm_get he h2
    exact .inr ⟨j, x, by rw [h1, hv], hx, M.inj _ _ (by rw [← hk, h3])⟩
omit [DecidableEq α] in
theorem gm_check (M : MTy α β kT vT mT kf vf ok z) (em : Bool) (a : α) (ha : ok a) (W : World) : (Instr.checkKey em 10000 kT (kf a)).run Tryd.prog W = .ok () W := by
  obtain ⟨lx, hlx⟩ := M.key a ha
  exact M.law.check W em hlx
/-- 'v, ok := m[a]'. -/
theorem gm_look (M : MTy α β kT vT mT kf vf ok z) (h : MpAt kf vf ok w b l) (a : α) (ha : ok a) :
    (Instr.lookup mT (.map (some b)) (kf a) true).run Tryd.prog w = .ok (.tuple #[vf ((getG l a).getD z), .bool (getG l a).isSome]) w := by
  have hap := MpAt.apart h
  obtain ⟨es, clock, hb, hs, he, ho⟩ := h
  rcases gm_find M he ho a ha w with ⟨h1, h2⟩ | ⟨j, x, h1, h2, h3⟩
  · rw [getG_none h2]
    simp [Instr.lookup, run_underlying M.und, MapKept.run_getObj_map hb, gm_check M _ a ha, h1, M.zero, Result.andThen]
  · rw [getG_some hap h2 h3]
    simp [Instr.lookup, run_underlying M.und, MapKept.run_getObj_map hb, gm_check M _ a ha, h1, Result.andThen]
/-- 'v := m[a]'. -/
theorem gm_look1 (M : MTy α β kT vT mT kf vf ok z) (h : MpAt kf vf ok w b l) (a : α) (ha : ok a) :
    (Instr.lookup mT (.map (some b)) (kf a) false).run Tryd.prog w = .ok (vf ((getG l a).getD z)) w := by
  have hap := MpAt.apart h
  obtain ⟨es, clock, hb, hs, he, ho⟩ := h
  rcases gm_find M he ho a ha w with ⟨h1, h2⟩ | ⟨j, x, h1, h2, h3⟩
  · rw [getG_none h2]
    simp [Instr.lookup, run_underlying M.und, MapKept.run_getObj_map hb, gm_check M _ a ha, h1, M.zero, Result.andThen]
  · rw [getG_some hap h2 h3]
    simp [Instr.lookup, run_underlying M.und, MapKept.run_getObj_map hb, gm_check M _ a ha, h1, Result.andThen]
/-- 'm[a] = c' at a key that is not there. -/
theorem gm_push (M : MTy α β kT vT mT kf vf ok z) (h : MpAt kf vf ok w b l) (a : α) (ha : ok a) (c : β) (hn : getG l a = none) :
    ∃ w', (Instr.mapUpdate mT (.map (some b)) (kf a) (vf c)).run Tryd.prog w = .ok () w' ∧ MpAt kf vf ok w' b (l ++ [(a, c)]) ∧ w.grownBy w' (some b) := by
  obtain ⟨es, clock, hb, hs, he, ho⟩ := h
  rcases gm_find M he ho a ha w with ⟨h1, h2⟩ | ⟨j, x, _, h2, h3⟩
  · refine ⟨setBlock w b (.map (es.push { key := kf a, val := vf c, born := clock }) (clock + 1)), ?_, ⟨_, _, heap_setBlock_same hb _, stamped_push hs (fun e hem => ?_), ?_, fun x hx => ?_⟩, ⟨rfl, rfl, rfl, by simp [setBlock], fun i _ hi => heap_setBlock_other hb _ (fun e => hi (by rw [e]))⟩⟩
    · simp [Instr.mapUpdate, run_underlying M.und, MapKept.run_getObj_map hb, gm_check M _ a ha, h1, MapKept.run_setObj_map _ hb, Result.andThen, setBlock]
    · obtain ⟨x, hx, hk, _⟩ := gm_mem he hem
      rw [hk]
      exact fun e => h2 x hx (M.inj _ _ e)
    · rw [Array.toList_push, List.map_append, List.map_append, he]
      rfl
    · rcases List.mem_append.1 hx with hx | hx
      · exact ho x hx
      · rw [List.mem_singleton.1 hx]
        exact ha
  · exact absurd h3 (getG_ne hn x (List.mem_of_getElem? h2))
theorem putmap_idx : ∀ {l : List (α × β)} {a : α} {j : Nat} {x : α × β} (c : β), l.Pairwise (fun x y => x.1 ≠ y.1) → l[j]? = some x → x.1 = a → l.modify j (fun _ => (a, c)) = l.map (fun x => if x.1 = a then (a, c) else x)
  | y :: l, p, 0, x, c, ha, hj, hp => by
    simp only [List.getElem?_cons_zero, Option.some.injEq] at hj
    subst hj
    obtain ⟨h1, h2⟩ := List.pairwise_cons.1 ha
    have : l.map (fun x => if x.1 = p then (p, c) else x) = l := by
      conv => rhs; rw [← List.map_id l]
      exact List.map_congr_left fun z hz => if_neg fun e => h1 z hz (by rw [hp, e])
    rw [List.map_cons, this, if_pos hp]
    rfl
  | y :: l, p, j + 1, x, c, ha, hj, hp => by
    obtain ⟨h1, h2⟩ := List.pairwise_cons.1 ha
    have hj' : l[j]? = some x := by simpa using hj
    have hne : ¬ y.1 = p := fun e => h1 x (List.mem_of_getElem? hj') (by rw [e, hp])
    have := putmap_idx c h2 hj' hp
    rw [List.map_cons, if_neg hne, ← this]
    rfl
  | [], _, _, _, _, _, hj, _ => by simp at hj
/-- 'm[a] = c', at whatever key. -/
theorem gm_put (M : MTy α β kT vT mT kf vf ok z) (h : MpAt kf vf ok w b l) (a : α) (ha : ok a) (c : β) :
    ∃ w', (Instr.mapUpdate mT (.map (some b)) (kf a) (vf c)).run Tryd.prog w = .ok () w' ∧ MpAt kf vf ok w' b (putG l a c) ∧ w.grownBy w' (some b) := by
  cases hg : getG l a with
  | none =>
    have := gm_push M h a ha c hg
    unfold putG
    rw [hg]
    exact this
  | some c0 =>
    have e : putG l a c = l.map (fun x => if x.1 = a then (a, c) else x) := by unfold putG; rw [hg]; rfl
    rw [e]
    have hap := MpAt.apart h
    obtain ⟨es, clock, hb, hs, he, ho⟩ := h
    rcases gm_find M he ho a ha w with ⟨_, h2⟩ | ⟨j, x, h1, h2, h3⟩
    · rw [getG_none h2] at hg
      cases hg
    · obtain ⟨en, hen, hk⟩ : ∃ en, es[j]? = some en ∧ en.key = kf a := by
        have h4 := congrArg (·[j]?) he
        simp only [List.getElem?_map, h2, Option.map_some] at h4
        cases hx : es.toList[j]? with
        | none => simp [hx] at h4
        | some en =>
          rw [hx, Option.map_some, Option.some.injEq, kvE, Prod.mk.injEq] at h4
          exact ⟨en, by rw [← Array.getElem?_toList]; exact hx, by rw [h4.1, h3]⟩
      obtain ⟨lx, hlx⟩ := M.key a ha
      refine ⟨setBlock w b (.map (es.modify j fun e => { e with key := kf a, val := vf c }) clock), ?_, ⟨_, _, heap_setBlock_same hb _, stamped_modify hs j _ (fun _ _ => rfl) (fun e _ hej => ?_), ?_, fun x hx => ?_⟩, ⟨rfl, rfl, rfl, by simp [setBlock], fun i _ hi => heap_setBlock_other hb _ (fun e => hi (by rw [e]))⟩⟩
      · simp [Instr.mapUpdate, run_underlying M.und, MapKept.run_getObj_map hb, gm_check M _ a ha, h1, hen, hk, M.law.stays w hlx, MapKept.run_setObj_map _ hb, Result.andThen, setBlock]
      · rw [hen, Option.some.injEq] at hej
        rw [← hej]
        exact hk.symm
      · rw [Array.toList_modify, ← putmap_idx c hap h2 h3]
        have h5 : ∀ (L : List MapEntry) (M : List (α × β)) (i : Nat), L.map kvE = M.map (fun x => (kf x.1, vf x.2)) → (L.modify i fun e => { e with key := kf a, val := vf c }).map kvE = (M.modify i fun _ => (a, c)).map (fun x => (kf x.1, vf x.2)) := by
          intro L
          induction L with
          | nil =>
            intro M i hM
            rw [List.map_nil, eq_comm, List.map_eq_nil_iff] at hM
            subst hM
            simp
          | cons y L ih =>
            intro M i hM
            cases M with
            | nil => simp at hM
            | cons m M =>
              rw [List.map_cons, List.map_cons, List.cons.injEq] at hM
              cases i with
              | zero =>
                show kvE { y with key := kf a, val := vf c } :: L.map kvE = (kf a, vf c) :: M.map _
                rw [hM.2]
                rfl
              | succ i =>
                show kvE y :: (L.modify i _).map kvE = (kf m.1, vf m.2) :: (M.modify i _).map _
                rw [ih M i hM.2, hM.1]
        exact h5 _ _ _ he
      · obtain ⟨y, hy, rfl⟩ := List.mem_map.1 hx
        by_cases hya : y.1 = a
        · rw [if_pos hya]
          exact ha
        · rw [if_neg hya]
          exact ho y hy
/-- 'delete(m, a)'. -/
theorem gm_del (M : MTy α β kT vT mT kf vf ok z) (h : MpAt kf vf ok w b l) (a : α) (ha : ok a) (ty : TypeId) :
    ∃ w', (Builtin.delete_ #[mT, kT] ty #[.map (some b), kf a]).run Tryd.prog w = .ok (.tuple #[]) w' ∧ MpAt kf vf ok w' b (delG l a) ∧ w.grownBy w' (some b) := by
  have hap := MpAt.apart h
  obtain ⟨es, clock, hb, hs, he, ho⟩ := h
  have hg : ∀ o, w.grownBy (setBlock w b o) (some b) := fun o => ⟨rfl, rfl, rfl, by simp [setBlock], fun i _ hi => heap_setBlock_other hb _ (fun e => hi (by rw [e]))⟩
  rcases gm_find M he ho a ha w with ⟨h1, h2⟩ | ⟨j, x, h1, h2, h3⟩
  · refine ⟨setBlock w b (.map es clock), ?_, ⟨_, _, heap_setBlock_same hb _, hs, ?_, fun x hx => ho x (List.mem_filter.1 hx).1⟩, hg _⟩
    · simp [Builtin.delete_, run_underlying M.und, MapKept.run_getObj_map hb, gm_check M _ a ha, h1, MapKept.run_setObj_map _ hb, Result.andThen, setBlock]
    · rw [he, delG, List.filter_eq_self.2 (fun x hx => by simpa using h2 x hx)]
  · have hjl : j < es.size := by
      have h4 := congrArg List.length he
      have h5 := (List.getElem?_eq_some_iff.1 h2).1
      simp at h4
      omega
    have hsub : (es.eraseIdxIfInBounds j).toList = es.toList.eraseIdx j := by
      unfold Array.eraseIdxIfInBounds
      rw [dif_pos hjl]
      simp
    refine ⟨setBlock w b (.map (es.eraseIdxIfInBounds j) clock), ?_, ⟨_, _, heap_setBlock_same hb _, stamped_erase hs j, ?_, fun x hx => ho x (List.mem_filter.1 hx).1⟩, hg _⟩
    · simp [Builtin.delete_, run_underlying M.und, MapKept.run_getObj_map hb, gm_check M _ a ha, h1, MapKept.run_setObj_map _ hb, Result.andThen, setBlock]
    · rw [hsub, ← delG_idx hap h2 h3, Go.ChangeMaps.map_eraseIdx, Go.ChangeMaps.map_eraseIdx, he]
omit [DecidableEq α] in
/-- 'len(m)'. -/
theorem gm_len (M : MTy α β kT vT mT kf vf ok z) (h : MpAt kf vf ok w b l) (ty : TypeId) : (Builtin.len_ #[mT] ty #[.map (some b)]).run Tryd.prog w = .ok (.int .i64 (l.length : Int)) w := by
  obtain ⟨es, clock, hb, hs, he, ho⟩ := h
  have h4 := congrArg List.length he
  simp only [List.length_map] at h4
  rw [← h4]
  simp [Builtin.len_, run_underlying M.und, MapKept.run_getObj_map hb, goInt, Result.andThen]
omit [DecidableEq α] in
/-- A map that has just been made. -/
theorem gm_made (w : World) : MpAt kf vf ok (w.alloc (.map #[] 0)) w.heap.size [] := ⟨#[], 0, heap_alloc_new w _, stamped_empty 0, rfl, by simp⟩
/-- 'delete(m, a)' in a region. -/
theorem wp_delete_gm (M : MTy α β kT vT mT kf vf ok z) {op : Oper} {a : Act} {K : Act → World → Prop} {Q : Exit → Act → World → Prop} (x y : Operand) (ho : op.op = Op.call { callee := Callee.builtin Builtin.delete, args := #[x, y], argTypes := #[mT, kT] })
    (p : α) (hp : ok p) (hx : a.eval x = .map (some b)) (hy : a.eval y = kf p) (hm : MpAt kf vf ok w b l) (hK : ∀ w', MpAt kf vf ok w' b (delG l p) → w.grownBy w' (some b) → K (a.put op.dst (.tuple #[])) w') : op.wp Tryd.prog a w K Q := by
  obtain ⟨w', hrun, r1, r2⟩ := gm_del M hm p hp op.type
  unfold Oper.wp
  simp [execOp, ho, resolve, invoke, builtin, hx, hy, hrun, Result.andThen]
  exact hK w' r1 r2
/-- 'm[a] = c' in a region. -/
theorem wp_put_gm (M : MTy α β kT vT mT kf vf ok z) {op : Oper} {a : Act} {K : Act → World → Prop} {Q : Exit → Act → World → Prop} (x y q : Operand) (ho : op.op = Op.mapUpdate mT x y q)
    (p : α) (hp : ok p) (c : β) (hx : a.eval x = .map (some b)) (hy : a.eval y = kf p) (hz : a.eval q = vf c) (hm : MpAt kf vf ok w b l)
    (hK : ∀ w', MpAt kf vf ok w' b (putG l p c) → w.grownBy w' (some b) → K (a.put op.dst undef) w') : op.wp Tryd.prog a w K Q := by
  obtain ⟨w', hrun, r1, r2⟩ := gm_put M hm p hp c
  unfold Oper.wp
  simp [execOp, ho, hx, hy, hz, hrun, Result.andThen]
  exact hK w' r1 r2
end
/-! Digests as keys. -/
theorem hash_keyAt : Tryd.prog.keyTypeAt 2 25 = true := by kernel_rfl
theorem cm_hash_row : 25 < Tryd.prog.types.size := of_decide_eq_true (by kernel_rfl)
theorem cm_hash_key : Tryd.prog.keyType 25 = true := by kernel_rfl
theorem cm_hash_wide : (match Tryd.prog.underlying 25 with | some (.array _ _) | some (.struct _) => true | _ => false) = true := by kernel_rfl
set_option maxRecDepth 100000 in
theorem cm_hash_law : WideMaps.KeyLaw Tryd.prog 25 := deep_law_laid cn_laidOut (m := 2) (by omega) cm_hash_row hash_keyAt cm_hash_wide
theorem hash_keyOf (h : List UInt8) (hh : h.length = 32) : ∃ l, keyOf Tryd.prog 25 (.agg (h.map bV).toArray) = some l := by
  obtain ⟨m, hm⟩ : ∃ m, Tryd.prog.types.size = m + 2 := ⟨Tryd.prog.types.size - 2, by have := types_two; omega⟩
  obtain ⟨l, hl⟩ := cm_lits_hash (m + 1) h hh
  have hfo : Value.formed Tryd.prog 25 (.agg (h.map bV).toArray) = true := by
    have c1 : Tryd.prog.cellsOf 25 = 32 := by kernel_rfl
    simp [Value.formed, Tryd.underlying25, c1, hh]
  refine ⟨.string (keyBytes l), ?_⟩
  have e : (Value.agg (h.map bV).toArray).cells.toList = h.map bV := by simp [Value.cells]
  have hl' : Tryd.prog.keyLits (m + 2 + 1) 25 (h.map bV) = some l := hl
  simp only [keyOf, Tryd.underlying25, cm_hash_key, hfo, Bool.and_self, if_true, e, hm, hl', Option.map_some]
end Go.Proofs.YtgcoegbamoehfaaDoor.Sha

/-
  A Reader's inner call takes so many bytes, or tells that there are too few, or that an error was met; Left and Err tell what is left and the first error; Read makes a Reader. Conditions: the Reader stands as it should; the three errors are there.
-/
namespace Go.Proofs.YtgcoegbamoehfaaDoor.Sha
open Go Go.RowKit
/-- Where an own row lies. -/
theorem own_at {w : World} {base n : Nat} {v : Value} {xs : List Value} {e : TypeId} (h : w.ownsRow base e 1 v n xs) : ∃ m, AtB v m ∧ m ≠ w.heap.size ∧ (0 < n → base ≤ m) := by
  rcases h.2 with ⟨h', h0⟩ | ⟨g, cap', cur, h', hg, hc, _⟩
  · exact ⟨w.heap.size + 1, (fun sp k cap hv hk => by rw [hv] at h'; cases h'), by omega, fun h1 => by omega⟩
  · refine ⟨g, (fun sp k cap hv hk => ?_), ?_, fun _ => hg⟩
    · rw [hv] at h'; cases h'; rfl
    · have := (Array.getElem?_eq_some_iff.1 hc).1
      omega
theorem cut_shape {v : Value} {sp : Option Addr} {l r cap : Nat} (h : Hid (v = sliced sp l r cap 1)) : ∃ x, v = .slice x (r - l) (cap - l) := ⟨_, h.out⟩
end Go.Proofs.YtgcoegbamoehfaaDoor.Sha
