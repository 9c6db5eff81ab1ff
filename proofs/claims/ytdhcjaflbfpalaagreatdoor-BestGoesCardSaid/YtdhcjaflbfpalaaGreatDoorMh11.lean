/-
  Texts of this proof joined into one file: GMap, OwnMap, CtAt, CtDown, TwMath, ShaCmp, PtOrd, TwUnder. What each holds, and under which conditions, its own first sentence tells.
-/
import Derived.Lib.OwnKind
import Derived.Deep.LoopGhost
import Derived.LaidEqlPtr
import Derived.Lib.Builder
import Derived.Lib.Bytealg
import Derived.Lib.BytesEntry
import Derived.Test.YtdhcjaflbfpalaaGreatDoorMh09
import Derived.Test.YtdhcjaflbfpalaaGreatDoorMh05
import Derived.Test.YtdhcjaflbfpalaaGreatDoorMh10
import Derived.Test.YtdhcjaflbfpalaaGreatDoorMh04
import Derived.Test.YtdhcjaflbfpalaaGreatDoorMh08
import Derived.Test.YtdhcjaflbfpalaaGreatDoorMh01
import Derived.Test.YtdhcjaflbfpalaaGreatDoorMh03
/-
  A map of any keys and values: what is found, put (a new key, or one that is there), taken away, counted; places of coins, and digests, as keys. Conditions: the keys are as the model has them.
-/
namespace Go.Proofs.YtdhcjaflbfpalaaGreatDoor.Sha
open Go Go.RowKit Go.MapKept
open Go.ChangeMaps (setBlock heap_setBlock_same heap_setBlock_other)
/-- What a map's types have to give: keys a of α as values kf a, values b of β as vf b; z: the zero value. -/
structure MTy (α β : Type) (kT vT mT : TypeId) (kf : α → Value) (vf : β → Value) (ok : α → Prop) (z : β) : Prop where
  law : WideMaps.KeyLaw Tryz.prog kT
  und : Tryz.prog.underlying mT = some (.map kT vT)
  key : ∀ a, ok a → ∃ l, keyOf Tryz.prog kT (kf a) = some l
  inj : ∀ a b, kf a = kf b → a = b
  zero : ∀ w, (zeroValue vT).run Tryz.prog w = .ok (vf z) w
/-- Block b is a map of these entries. -/
def MpAt {α β : Type} (kf : α → Value) (vf : β → Value) (ok : α → Prop) (w : World) (b : Nat) (l : List (α × β)) : Prop :=
  ∃ es clock, w.heap[b]? = some (.map es clock) ∧ Stamped es clock ∧ es.toList.map kvE = l.map (fun x => (kf x.1, vf x.2)) ∧ ∀ x ∈ l, ok x.1
section
variable {α β : Type} [DecidableEq α]
def getG (l : List (α × β)) (a : α) : Option β := (l.find? (fun x => decide (x.1 = a))).map (·.2)
def delG (l : List (α × β)) (a : α) : List (α × β) := l.filter (fun x => !decide (x.1 = a))
def putG (l : List (α × β)) (a : α) (b : β) : List (α × β) := if (getG l a).isSome then l.map (fun x => if x.1 = a then (a, b) else x) else l ++ [(a, b)]
theorem getG_none {l : List (α × β)} {a : α} (h : ∀ x ∈ l, x.1 ≠ a) : getG l a = none := by
  unfold getG
  rw [List.find?_eq_none.2 (fun x hx => by simpa using h x hx)]
  rfl
theorem getG_ne {l : List (α × β)} {a : α} (h : getG l a = none) : ∀ x ∈ l, x.1 ≠ a := by
  unfold getG at h
  rw [Option.map_eq_none_iff, List.find?_eq_none] at h
  exact fun x hx e => h x hx (by simpa using e)
theorem getG_mem {l : List (α × β)} {a : α} {b : β} (h : getG l a = some b) : (a, b) ∈ l := by
  unfold getG at h
  obtain ⟨x, hx, rfl⟩ := Option.map_eq_some_iff.1 h
  have h1 := List.find?_some hx
  have h2 := List.mem_of_find?_eq_some hx
  have e : x.1 = a := by simpa using h1
  rw [← e]
  exact h2
theorem getG_some : ∀ {l : List (α × β)} {a : α} {j : Nat} {x : α × β}, l.Pairwise (fun x y => x.1 ≠ y.1) → l[j]? = some x → x.1 = a → getG l a = some x.2
  | y :: l, p, 0, x, _, hj, hp => by
    simp only [List.getElem?_cons_zero, Option.some.injEq] at hj
    subst hj
    simp [getG, hp]
  | y :: l, p, j + 1, x, ha, hj, hp => by
    obtain ⟨h1, h2⟩ := List.pairwise_cons.1 ha
    have hj' : l[j]? = some x := by simpa using hj
    have hne : ¬ y.1 = p := fun e => h1 x (List.mem_of_getElem? hj') (by rw [e, hp])
    have := getG_some h2 hj' hp
    unfold getG at this ⊢
    rw [List.find?_cons_of_neg (by simpa using hne)]
    exact this
  | [], _, _, _, _, hj, _ => by simp at hj
theorem delG_idx : ∀ {l : List (α × β)} {a : α} {j : Nat} {x : α × β}, l.Pairwise (fun x y => x.1 ≠ y.1) → l[j]? = some x → x.1 = a → l.eraseIdx j = delG l a
  | y :: l, p, 0, x, ha, hj, hp => by
    simp only [List.getElem?_cons_zero, Option.some.injEq] at hj
    subst hj
    obtain ⟨h1, h2⟩ := List.pairwise_cons.1 ha
    have : delG l p = l := List.filter_eq_self.2 (fun z hz => by simpa using fun e => h1 z hz (by rw [hp, e]))
    show l = (y :: l).filter _
    rw [List.filter_cons_of_neg (by simpa using hp)]
    exact this.symm
  | y :: l, p, j + 1, x, ha, hj, hp => by
    obtain ⟨h1, h2⟩ := List.pairwise_cons.1 ha
    have hj' : l[j]? = some x := by simpa using hj
    have hne : ¬ y.1 = p := fun e => h1 x (List.mem_of_getElem? hj') (by rw [e, hp])
    have := delG_idx h2 hj' hp
    unfold delG at this ⊢
    rw [List.eraseIdx_cons_succ, this, List.filter_cons_of_pos (by simpa using hne)]
  | [], _, _, _, _, hj, _ => by simp at hj
theorem getG_nil (a : α) : getG ([] : List (α × β)) a = none := rfl
theorem getG_push {l : List (α × β)} {a q : α} {b : β} (h : getG l a = none) : getG (l ++ [(a, b)]) q = if q = a then some b else getG l q := by
  unfold getG
  rw [List.find?_append]
  by_cases hq : q = a
  · subst hq
    have := List.find?_eq_none.2 (fun x hx => by simpa using getG_ne h x hx : ∀ x ∈ l, ¬ (decide (x.1 = q)) = true)
    rw [this]
    simp
  · rw [if_neg hq]
    have : List.find? (fun x => decide (x.1 = q)) [(a, b)] = none := by
      rw [List.find?_eq_none]
      intro x hx
      rw [List.mem_singleton.1 hx]
      simpa using fun e => hq (Eq.symm e)
    rw [this, Option.or_none]
theorem getG_del {l : List (α × β)} {a q : α} : getG (delG l a) q = if q = a then none else getG l q := by
  by_cases hq : q = a
  · subst hq
    rw [if_pos rfl]
    refine getG_none fun x hx => ?_
    have := (List.mem_filter.1 hx).2
    simpa using this
  · rw [if_neg hq]
    unfold getG delG
    rw [List.find?_filter]
    congr 1
    congr 1
    funext x
    by_cases hx : x.1 = q
    · simp [hx, hq]
    · simp [hx]
theorem getG_putmap {l : List (α × β)} {a q : α} {b : β} : getG (l.map (fun x => if x.1 = a then (a, b) else x)) q = if q = a then (getG l a).map (fun _ => b) else getG l q := by
  induction l with
  | nil => simp [getG]
  | cons y l ih =>
    unfold getG at ih ⊢
    rw [List.map_cons]
    by_cases hy : y.1 = a
    · rw [if_pos hy]
      by_cases hq : q = a
      · subst hq
        simp [hy]
      · rw [if_neg hq] at ih ⊢
        rw [List.find?_cons_of_neg (by simpa using fun e => hq (Eq.symm e)), List.find?_cons_of_neg (by simpa [hy] using fun e => hq (Eq.symm e)), ih]
    · rw [if_neg hy]
      by_cases hq : q = a
      · subst hq
        rw [if_pos rfl] at ih ⊢
        rw [List.find?_cons_of_neg (by simpa using hy), List.find?_cons_of_neg (by simpa using hy), ih]
      · rw [if_neg hq] at ih ⊢
        by_cases hyq : y.1 = q
        · simp [hyq]
        · rw [List.find?_cons_of_neg (by simpa using hyq), List.find?_cons_of_neg (by simpa using hyq), ih]
theorem getG_put {l : List (α × β)} {a q : α} {b : β} : getG (putG l a b) q = if q = a then some b else getG l q := by
  unfold putG
  cases h : getG l a with
  | none => simpa using getG_push h
  | some c => simp [getG_putmap, h]
variable {kT vT mT : TypeId} {kf : α → Value} {vf : β → Value} {ok : α → Prop} {z : β} {w : World} {b : Nat} {l : List (α × β)}
omit [DecidableEq α] in
theorem gm_get {es : Array MapEntry} (h : es.toList.map kvE = l.map (fun x => (kf x.1, vf x.2))) {j : Nat} {e : MapEntry} (hj : es.toList[j]? = some e) : ∃ x, l[j]? = some x ∧ e.key = kf x.1 ∧ e.val = vf x.2 := by
  have h1 := congrArg (·[j]?) h
  simp only [List.getElem?_map, hj, Option.map_some] at h1
  cases hx : l[j]? with
  | none => simp [hx] at h1
  | some x =>
    rw [hx, Option.map_some, Option.some.injEq, kvE, Prod.mk.injEq] at h1
    exact ⟨x, rfl, h1.1, h1.2⟩
omit [DecidableEq α] in
theorem gm_mem {es : Array MapEntry} (h : es.toList.map kvE = l.map (fun x => (kf x.1, vf x.2))) {e : MapEntry} (he : e ∈ es.toList) : ∃ x ∈ l, e.key = kf x.1 ∧ e.val = vf x.2 := by
  obtain ⟨j, hj⟩ := List.getElem?_of_mem he
  obtain ⟨x, hx, h1⟩ := gm_get h hj
  exact ⟨x, List.mem_of_getElem? hx, h1⟩
omit [DecidableEq α] in
theorem gm_mem' {es : Array MapEntry} (h : es.toList.map kvE = l.map (fun x => (kf x.1, vf x.2))) {x : α × β} (hx : x ∈ l) : ∃ e ∈ es.toList, e.key = kf x.1 ∧ e.val = vf x.2 := by
  have h1 : (kf x.1, vf x.2) ∈ es.toList.map kvE := by rw [h]; exact List.mem_map.2 ⟨x, hx, rfl⟩
  obtain ⟨e, he, h2⟩ := List.mem_map.1 h1
  rw [kvE, Prod.mk.injEq] at h2
  exact ⟨e, he, h2.1, h2.2⟩
omit [DecidableEq α] in
/-- No key has two values. -/
theorem MpAt.apart (h : MpAt kf vf ok w b l) : l.Pairwise (fun x y => x.1 ≠ y.1) := by
  obtain ⟨es, clock, _, hs, he, _⟩ := h
  have h1 := ((stamped_iff es clock).1 hs).2.2
  have h2 : (es.toList.map kvE).Pairwise (fun p q => p.1 ≠ q.1) := by
    rw [List.pairwise_map]
    exact h1
  rw [he, List.pairwise_map] at h2
  exact h2.imp (fun {x y} hne e => hne (by show kf _ = kf _; rw [e]))
omit [DecidableEq α] in
theorem MpAt.lt (h : MpAt kf vf ok w b l) : b < w.heap.size := by
  obtain ⟨_, _, hb, _⟩ := h
  exact (Array.getElem?_eq_some_iff.1 hb).1
omit [DecidableEq α] in
theorem MpAt.kps {F : Nat → Prop} {w' : World} (h : MpAt kf vf ok w b l) (hk : Kps F w w') (hf : F b) : MpAt kf vf ok w' b l := by
  obtain ⟨es, clock, hb, h2⟩ := h
  exact ⟨es, clock, row_kps hb hk hf, h2⟩
omit [DecidableEq α] in
theorem MpAt.below {w' : World} (h : MpAt kf vf ok w b l) (hb : Below w.heap.size w w') : MpAt kf vf ok w' b l := by
  obtain ⟨es, clock, h1, h2⟩ := h
  exact ⟨es, clock, row_below h1 hb, h2⟩
omit [DecidableEq α] in
/-- A map's block is no block of cells. -/
theorem MpAt.ne (h : MpAt kf vf ok w b l) {x : Nat} {cs : Array Value} {T : TypeId} {fr : Nat × Nat} (hx : w.heap[x]? = some (.cells cs T fr)) : x ≠ b := by
  rintro rfl
  obtain ⟨es, clock, h1, _⟩ := h
  rw [h1] at hx
  cases hx
omit [DecidableEq α] in
theorem gm_find (M : MTy α β kT vT mT kf vf ok z) {es : Array MapEntry} (he : es.toList.map kvE = l.map (fun x => (kf x.1, vf x.2))) (ho : ∀ x ∈ l, ok x.1) (a : α) (ha : ok a) (W : World) :
    ((Instr.findKey kT (kf a) es.toList).run Tryz.prog W = .ok none W ∧ ∀ x ∈ l, x.1 ≠ a) ∨
    ∃ j x, (Instr.findKey kT (kf a) es.toList).run Tryz.prog W = .ok (some (j, vf x.2)) W ∧ l[j]? = some x ∧ x.1 = a := by
  obtain ⟨lx, hlx⟩ := M.key a ha
  rcases M.law.find W hlx es.toList (fun e hem => by
    obtain ⟨x, hx, hk, _⟩ := gm_mem he hem
    rw [hk]
    exact M.key _ (ho x hx)) with ⟨h1, h2⟩ | ⟨j, e, h1, h2, h3⟩
  · refine .inl ⟨h1, fun x hx e => ?_⟩
    obtain ⟨en, hen, hk, _⟩ := gm_mem' he hx
    exact h2 en hen (by rw [hk, e])
  · obtain ⟨x, hx, hk, hv⟩ := gm_get he h2
    exact .inr ⟨j, x, by rw [h1, hv], hx, M.inj _ _ (by rw [← hk, h3])⟩
omit [DecidableEq α] in
theorem gm_check (M : MTy α β kT vT mT kf vf ok z) (em : Bool) (a : α) (ha : ok a) (W : World) : (Instr.checkKey em 10000 kT (kf a)).run Tryz.prog W = .ok () W := by
  obtain ⟨lx, hlx⟩ := M.key a ha
  exact M.law.check W em hlx
/-- 'v, ok := m[a]'. -/
theorem gm_look (M : MTy α β kT vT mT kf vf ok z) (h : MpAt kf vf ok w b l) (a : α) (ha : ok a) :
    (Instr.lookup mT (.map (some b)) (kf a) true).run Tryz.prog w = .ok (.tuple #[vf ((getG l a).getD z), .bool (getG l a).isSome]) w := by
  have hap := MpAt.apart h
  obtain ⟨es, clock, hb, hs, he, ho⟩ := h
  rcases gm_find M he ho a ha w with ⟨h1, h2⟩ | ⟨j, x, h1, h2, h3⟩
  · rw [getG_none h2]
    simp [Instr.lookup, run_underlying M.und, MapKept.run_getObj_map hb, gm_check M _ a ha, h1, M.zero, Result.andThen]
  · rw [getG_some hap h2 h3]
    simp [Instr.lookup, run_underlying M.und, MapKept.run_getObj_map hb, gm_check M _ a ha, h1, Result.andThen]
/-- 'm[a] = c' at a key that is not there. -/
theorem gm_push (M : MTy α β kT vT mT kf vf ok z) (h : MpAt kf vf ok w b l) (a : α) (ha : ok a) (c : β) (hn : getG l a = none) :
    ∃ w', (Instr.mapUpdate mT (.map (some b)) (kf a) (vf c)).run Tryz.prog w = .ok () w' ∧ MpAt kf vf ok w' b (l ++ [(a, c)]) ∧ w.grownBy w' (some b) := by
  obtain ⟨es, clock, hb, hs, he, ho⟩ := h
  rcases gm_find M he ho a ha w with ⟨h1, h2⟩ | ⟨j, x, _, h2, h3⟩
  · refine ⟨setBlock w b (.map (es.push { key := kf a, val := vf c, born := clock }) (clock + 1)), ?_, ⟨_, _, heap_setBlock_same hb _, stamped_push hs (fun e hem => ?_), ?_, fun x hx => ?_⟩, ⟨rfl, rfl, rfl, by simp [setBlock], fun i _ hi => heap_setBlock_other hb _ (fun e => hi (by rw [e]))⟩⟩
    · simp [Instr.mapUpdate, run_underlying M.und, MapKept.run_getObj_map hb, gm_check M _ a ha, h1, MapKept.run_setObj_map _ hb, Result.andThen, setBlock]
    · obtain ⟨x, hx, hk, _⟩ := gm_mem he hem
      rw [hk]
      exact fun e => h2 x hx (M.inj _ _ e)
    · rw [Array.toList_push, List.map_append, List.map_append, he]
      rfl
    · rcases List.mem_append.1 hx with hx | hx
      · exact ho x hx
      · rw [List.mem_singleton.1 hx]
        exact ha
  · exact absurd h3 (getG_ne hn x (List.mem_of_getElem? h2))
theorem putmap_idx : ∀ {l : List (α × β)} {a : α} {j : Nat} {x : α × β} (c : β), l.Pairwise (fun x y => x.1 ≠ y.1) → l[j]? = some x → x.1 = a → l.modify j (fun _ => (a, c)) = l.map (fun x => if x.1 = a then (a, c) else x)
  | y :: l, p, 0, x, c, ha, hj, hp => by
    simp only [List.getElem?_cons_zero, Option.some.injEq] at hj
    subst hj
    obtain ⟨h1, h2⟩ := List.pairwise_cons.1 ha
    have : l.map (fun x => if x.1 = p then (p, c) else x) = l := by
      conv => rhs; rw [← List.map_id l]
      exact List.map_congr_left fun z hz => if_neg fun e => h1 z hz (by rw [hp, e])
    rw [List.map_cons, this, if_pos hp]
    rfl
  | y :: l, p, j + 1, x, c, ha, hj, hp => by
    obtain ⟨h1, h2⟩ := List.pairwise_cons.1 ha
    have hj' : l[j]? = some x := by simpa using hj
    have hne : ¬ y.1 = p := fun e => h1 x (List.mem_of_getElem? hj') (by rw [e, hp])
    have := putmap_idx c h2 hj' hp
    rw [List.map_cons, if_neg hne, ← this]
    rfl
  | [], _, _, _, _, _, hj, _ => by simp at hj
/-- 'm[a] = c', at whatever key. -/
theorem gm_put (M : MTy α β kT vT mT kf vf ok z) (h : MpAt kf vf ok w b l) (a : α) (ha : ok a) (c : β) :
    ∃ w', (Instr.mapUpdate mT (.map (some b)) (kf a) (vf c)).run Tryz.prog w = .ok () w' ∧ MpAt kf vf ok w' b (putG l a c) ∧ w.grownBy w' (some b) := by
  cases hg : getG l a with
  | none =>
    have := gm_push M h a ha c hg
    unfold putG
    rw [hg]
    exact this
  | some c0 =>
    have e : putG l a c = l.map (fun x => if x.1 = a then (a, c) else x) := by unfold putG; rw [hg]; rfl
    rw [e]
    have hap := MpAt.apart h
    obtain ⟨es, clock, hb, hs, he, ho⟩ := h
    rcases gm_find M he ho a ha w with ⟨_, h2⟩ | ⟨j, x, h1, h2, h3⟩
    · rw [getG_none h2] at hg
      cases hg
    · obtain ⟨en, hen, hk⟩ : ∃ en, es[j]? = some en ∧ en.key = kf a := by
        have h4 := congrArg (·[j]?) he
        simp only [List.getElem?_map, h2, Option.map_some] at h4
        cases hx : es.toList[j]? with
        | none => simp [hx] at h4
        | some en =>
          rw [hx, Option.map_some, Option.some.injEq, kvE, Prod.mk.injEq] at h4
          exact ⟨en, by rw [← Array.getElem?_toList]; exact hx, by rw [h4.1, h3]⟩
      obtain ⟨lx, hlx⟩ := M.key a ha
      refine ⟨setBlock w b (.map (es.modify j fun e => { e with key := kf a, val := vf c }) clock), ?_, ⟨_, _, heap_setBlock_same hb _, stamped_modify hs j _ (fun _ _ => rfl) (fun e _ hej => ?_), ?_, fun x hx => ?_⟩, ⟨rfl, rfl, rfl, by simp [setBlock], fun i _ hi => heap_setBlock_other hb _ (fun e => hi (by rw [e]))⟩⟩
      · simp [Instr.mapUpdate, run_underlying M.und, MapKept.run_getObj_map hb, gm_check M _ a ha, h1, hen, hk, M.law.stays w hlx, MapKept.run_setObj_map _ hb, Result.andThen, setBlock]
      · rw [hen, Option.some.injEq] at hej
        rw [← hej]
        exact hk.symm
      · rw [Array.toList_modify, ← putmap_idx c hap h2 h3]
        have h5 : ∀ (L : List MapEntry) (M : List (α × β)) (i : Nat), L.map kvE = M.map (fun x => (kf x.1, vf x.2)) → (L.modify i fun e => { e with key := kf a, val := vf c }).map kvE = (M.modify i fun _ => (a, c)).map (fun x => (kf x.1, vf x.2)) := by
          intro L
          induction L with
          | nil =>
            intro M i hM
            rw [List.map_nil, eq_comm, List.map_eq_nil_iff] at hM
            subst hM
            simp
          | cons y L ih =>
            intro M i hM
            cases M with
            | nil => simp at hM
            | cons m M =>
              rw [List.map_cons, List.map_cons, List.cons.injEq] at hM
              cases i with
              | zero =>
                show kvE { y with key := kf a, val := vf c } :: L.map kvE = (kf a, vf c) :: M.map _
                rw [hM.2]
                rfl
              | succ i =>
                show kvE y :: (L.modify i _).map kvE = (kf m.1, vf m.2) :: (M.modify i _).map _
                rw [ih M i hM.2, hM.1]
        exact h5 _ _ _ he
      · obtain ⟨y, hy, rfl⟩ := List.mem_map.1 hx
        by_cases hya : y.1 = a
        · rw [if_pos hya]
          exact ha
        · rw [if_neg hya]
          exact ho y hy
/-- 'delete(m, a)'. -/
theorem gm_del (M : MTy α β kT vT mT kf vf ok z) (h : MpAt kf vf ok w b l) (a : α) (ha : ok a) (ty : TypeId) :
    ∃ w', (Builtin.delete_ #[mT, kT] ty #[.map (some b), kf a]).run Tryz.prog w = .ok (.tuple #[]) w' ∧ MpAt kf vf ok w' b (delG l a) ∧ w.grownBy w' (some b) := by
  have hap := MpAt.apart h
  obtain ⟨es, clock, hb, hs, he, ho⟩ := h
  have hg : ∀ o, w.grownBy (setBlock w b o) (some b) := fun o => ⟨rfl, rfl, rfl, by simp [setBlock], fun i _ hi => heap_setBlock_other hb _ (fun e => hi (by rw [e]))⟩
  rcases gm_find M he ho a ha w with ⟨h1, h2⟩ | ⟨j, x, h1, h2, h3⟩
  · refine ⟨setBlock w b (.map es clock), ?_, ⟨_, _, heap_setBlock_same hb _, hs, ?_, fun x hx => ho x (List.mem_filter.1 hx).1⟩, hg _⟩
    · simp [Builtin.delete_, run_underlying M.und, MapKept.run_getObj_map hb, gm_check M _ a ha, h1, MapKept.run_setObj_map _ hb, Result.andThen, setBlock]
    · rw [he, delG, List.filter_eq_self.2 (fun x hx => by simpa using h2 x hx)]
  · have hjl : j < es.size := by
      have h4 := congrArg List.length he
      have h5 := (List.getElem?_eq_some_iff.1 h2).1
      simp at h4
      omega
    have hsub : (es.eraseIdxIfInBounds j).toList = es.toList.eraseIdx j := by
      unfold Array.eraseIdxIfInBounds
      rw [dif_pos hjl]
      simp
    refine ⟨setBlock w b (.map (es.eraseIdxIfInBounds j) clock), ?_, ⟨_, _, heap_setBlock_same hb _, stamped_erase hs j, ?_, fun x hx => ho x (List.mem_filter.1 hx).1⟩, hg _⟩
    · simp [Builtin.delete_, run_underlying M.und, MapKept.run_getObj_map hb, gm_check M _ a ha, h1, MapKept.run_setObj_map _ hb, Result.andThen, setBlock]
    · rw [hsub, ← delG_idx hap h2 h3, Go.ChangeMaps.map_eraseIdx, Go.ChangeMaps.map_eraseIdx, he]
omit [DecidableEq α] in
/-- 'len(m)'. -/
theorem gm_len (M : MTy α β kT vT mT kf vf ok z) (h : MpAt kf vf ok w b l) (ty : TypeId) : (Builtin.len_ #[mT] ty #[.map (some b)]).run Tryz.prog w = .ok (.int .i64 (l.length : Int)) w := by
  obtain ⟨es, clock, hb, hs, he, ho⟩ := h
  have h4 := congrArg List.length he
  simp only [List.length_map] at h4
  rw [← h4]
  simp [Builtin.len_, run_underlying M.und, MapKept.run_getObj_map hb, goInt, Result.andThen]
omit [DecidableEq α] in
/-- A map that has just been made. -/
theorem gm_made (w : World) : MpAt kf vf ok (w.alloc (.map #[] 0)) w.heap.size [] := ⟨#[], 0, heap_alloc_new w _, stamped_empty 0, rfl, by simp⟩
/-- 'delete(m, a)' in a region. -/
theorem wp_delete_gm (M : MTy α β kT vT mT kf vf ok z) {op : Oper} {a : Act} {K : Act → World → Prop} {Q : Exit → Act → World → Prop} (x y : Operand) (ho : op.op = Op.call { callee := Callee.builtin Builtin.delete, args := #[x, y], argTypes := #[mT, kT] })
    (p : α) (hp : ok p) (hx : a.eval x = .map (some b)) (hy : a.eval y = kf p) (hm : MpAt kf vf ok w b l) (hK : ∀ w', MpAt kf vf ok w' b (delG l p) → w.grownBy w' (some b) → K (a.put op.dst (.tuple #[])) w') : op.wp Tryz.prog a w K Q := by
  obtain ⟨w', hrun, r1, r2⟩ := gm_del M hm p hp op.type
  unfold Oper.wp
  simp [execOp, ho, resolve, invoke, builtin, hx, hy, hrun, Result.andThen]
  exact hK w' r1 r2
/-- 'm[a] = c' in a region. -/
theorem wp_put_gm (M : MTy α β kT vT mT kf vf ok z) {op : Oper} {a : Act} {K : Act → World → Prop} {Q : Exit → Act → World → Prop} (x y q : Operand) (ho : op.op = Op.mapUpdate mT x y q)
    (p : α) (hp : ok p) (c : β) (hx : a.eval x = .map (some b)) (hy : a.eval y = kf p) (hz : a.eval q = vf c) (hm : MpAt kf vf ok w b l)
    (hK : ∀ w', MpAt kf vf ok w' b (putG l p c) → w.grownBy w' (some b) → K (a.put op.dst undef) w') : op.wp Tryz.prog a w K Q := by
  obtain ⟨w', hrun, r1, r2⟩ := gm_put M hm p hp c
  unfold Oper.wp
  simp [execOp, ho, hx, hy, hz, hrun, Result.andThen]
  exact hK w' r1 r2
end
/-! Digests as keys. -/
theorem hash_keyAt : Tryz.prog.keyTypeAt 2 26 = true := by kernel_rfl
theorem cm_hash_row : 26 < Tryz.prog.types.size := of_decide_eq_true (by kernel_rfl)
theorem cm_hash_key : Tryz.prog.keyType 26 = true := by kernel_rfl
theorem cm_hash_wide : (match Tryz.prog.underlying 26 with | some (.array _ _) | some (.struct _) => true | _ => false) = true := by kernel_rfl
set_option maxRecDepth 100000 in
theorem cm_hash_law : WideMaps.KeyLaw Tryz.prog 26 := deep_law_laid cn_laidOut (m := 2) (by omega) cm_hash_row hash_keyAt cm_hash_wide
theorem hash_keyOf (h : List UInt8) (hh : h.length = 32) : ∃ l, keyOf Tryz.prog 26 (.agg (h.map bV).toArray) = some l := by
  obtain ⟨m, hm⟩ : ∃ m, Tryz.prog.types.size = m + 2 := ⟨Tryz.prog.types.size - 2, by have := types_two; omega⟩
  obtain ⟨l, hl⟩ := cm_lits_hash (m + 1) h hh
  have hfo : Value.formed Tryz.prog 26 (.agg (h.map bV).toArray) = true := by
    have c1 : Tryz.prog.cellsOf 26 = 32 := by kernel_rfl
    simp [Value.formed, Tryz.underlying26, c1, hh]
  refine ⟨.string (keyBytes l), ?_⟩
  have e : (Value.agg (h.map bV).toArray).cells.toList = h.map bV := by simp [Value.cells]
  have hl' : Tryz.prog.keyLits (m + 2 + 1) 26 (h.map bV) = some l := hl
  simp only [keyOf, Tryz.underlying26, cm_hash_key, hfo, Bool.and_self, if_true, e, hm, hl', Option.map_some]
end Go.Proofs.YtdhcjaflbfpalaaGreatDoor.Sha

/-
  Digests as keys of maps; rows of one's own beside boxes of other types and beside maps. No conditions.
-/
namespace Go.Proofs.YtdhcjaflbfpalaaGreatDoor.Sha
open Go Go.RowKit
def hK (h : List UInt8) : Value := .agg (h.map bV).toArray
theorem hK_inj (a b : List UInt8) (h : hK a = hK b) : a = b := by
  have h1 := Value.agg.inj h
  have h2 := congrArg Array.toList h1
  exact bV_list_inj h2
theorem own_kpsB {F : Nat → Prop} {w w' : World} {base n size : Nat} {e : TypeId} {v : Value} {xs : List Value} (h : w.ownsRow base e size v n xs) (hk : Kps F w w') (hf : ∀ g, v.ownBlock = some g → F g) : w'.ownsRow base e size v n xs := by
  refine ⟨h.1, ?_⟩
  rcases h.2 with hn | ⟨g, cap, cur, rfl, hb, hg, rest⟩
  · exact .inl hn
  · exact .inr ⟨g, cap, cur, rfl, hb, row_kps hg hk (hf g rfl), rest⟩
theorem own_ne' {w : World} {base n k g : Nat} {T T' : TypeId} {v : Value} {xs : List Value} {cs : Array Value} {fr : Nat × Nat} (h : w.ownsRow base T k v n xs) (hg : w.heap[g]? = some (.cells cs T' fr)) (hT : T ≠ T') : v.ownBlock ≠ some g := fun e => by
  obtain ⟨c, fz, hc⟩ := Lib.ownsRow_kind h g e
  rw [hc] at hg
  exact hT (by cases hg; rfl)
theorem own_nemap {α β : Type} {kf : α → Value} {vf : β → Value} {ok : α → Prop} {w : World} {q : Nat} {L : List (α × β)} (hm : MpAt kf vf ok w q L) {base n k : Nat} {T : TypeId} {v : Value} {xs : List Value} (h : w.ownsRow base T k v n xs) : v.ownBlock ≠ some q := fun e => by
  obtain ⟨c, fz, hc⟩ := Lib.ownsRow_kind h q e
  exact hm.ne hc rfl
end Go.Proofs.YtdhcjaflbfpalaaGreatDoor.Sha

/-
  The program's tree in memory: its box, the map of nodes by their ids, each node's box, the rows of those that hang on each. No conditions.
-/
namespace Go.Proofs.YtdhcjaflbfpalaaGreatDoor.Sha
open Go Go.RowKit
structure CNd where
  nd : TNd
  ad : Nat
  kids : Value
def nptr (o : Option Nat) : Value := match o with | some g => .pointer (some ⟨g, 0, none⟩) | none => .pointer none
theorem nptr_one (o : Option Nat) : (nptr o).oneCell' = true := by cases o <;> rfl
/-- A node's cells: p: its parent's block; v: those that hang on it. -/
def cnL (x : TNd) (p : Option Nat) (v : Value) : List Value := x.id.map bV ++ (hdL x.h ++ [.int .i64 x.height, .int .u64 (x.work : Int), nptr p, v])
theorem cnL_length {x : TNd} {p : Option Nat} {v : Value} (h1 : x.id.length = 32) (h2 : HdOk x.h) : (cnL x p v).length = 104 := by simp [cnL, h1, hdL_length h2]
/-- The block of a place of the list. -/
def cnP (M : List CNd) (p : Int) : Option Nat := if p < 0 then none else (M[p.toNat]?).map (·.ad)
theorem cnP_at {M : List CNd} {k : Nat} {c : CNd} (h : M[k]? = some c) : cnP M (k : Int) = some c.ad := by
  unfold cnP
  rw [if_neg (by omega), Int.toNat_natCast, h]
  rfl
theorem cnP_neg {M : List CNd} {p : Int} (h : p < 0) : cnP M p = none := if_pos h
def ndM (M : List CNd) : List TNd := M.map (·.nd)
theorem ndM_at {M : List CNd} {k : Nat} {c : CNd} (h : M[k]? = some c) : (ndM M)[k]? = some c.nd := by unfold ndM; rw [List.getElem?_map, h]; rfl
theorem ndM_get {M : List CNd} {k : Nat} {x : TNd} (h : (ndM M)[k]? = some x) : ∃ c, M[k]? = some c ∧ c.nd = x := by
  unfold ndM at h
  rw [List.getElem?_map] at h
  cases hc : M[k]? with
  | none => rw [hc] at h; cases h
  | some c => rw [hc] at h; exact ⟨c, rfl, by injection h⟩
theorem ndM_length (M : List CNd) : (ndM M).length = M.length := List.length_map _
def idsM (M : List CNd) : List (List UInt8 × Option Nat) := M.map fun c => (c.nd.id, some c.ad)
def kidsM (M : List CNd) (i : Nat) : List (List Value) := (kidsI (ndM M) i).map fun j : Nat => [nptr (cnP M (j : Int))]
theorem mty_nodes : MTy (List UInt8) (Option Nat) 26 67 71 hK nptr (fun h => h.length = 32) none :=
  ⟨cm_hash_law, by kernel_rfl, hash_keyOf, hK_inj, fun w => by kernel_rfl⟩
/-- The tree in box b with its map in block mb, nodes M in order; all lies from block base on. -/
structure CtAt (w : World) (base b mb : Nat) (M : List CNd) : Prop where
  box : w.heap[b]? = some (.cells (((ndM M).getD 0 ndZ).id.map bV ++ [Value.map (some mb)]).toArray 73 (0, 0))
  mp : MpAt hK nptr (fun h => h.length = 32) w mb (idsM M)
  node : ∀ (i : Nat) (c : CNd), M[i]? = some c → w.heap[c.ad]? = some (.cells (cnL c.nd (cnP M c.nd.parent) c.kids).toArray 70 (0, 0))
  kid : ∀ (i : Nat) (c : CNd), M[i]? = some c → RwOwn 1 67 base w c.kids (kidsM M i)
  ne : ∀ (i j : Nat) (c d : CNd), M[i]? = some c → M[j]? = some d → i ≠ j → c.ad ≠ d.ad ∧ (c.kids.ownBlock = none ∨ c.kids.ownBlock ≠ d.kids.ownBlock)
  lo : base ≤ b ∧ base ≤ mb ∧ ∀ c ∈ M, base ≤ c.ad
/-- What the tree's calls leave: all but its map, its nodes, their rows. -/
def CF (mb : Nat) (M : List CNd) (j : Nat) : Prop := j ≠ mb ∧ ∀ c ∈ M, j ≠ c.ad ∧ c.kids.ownBlock ≠ some j
section
variable {w w' : World} {base b mb : Nat} {M : List CNd}
theorem CtAt.kps {F : Nat → Prop} (h : CtAt w base b mb M) (hk : Kps F w w') (h1 : F b) (h2 : F mb) (h3 : ∀ c ∈ M, F c.ad ∧ ∀ g, c.kids.ownBlock = some g → F g) : CtAt w' base b mb M :=
  ⟨row_kps h.box hk h1, h.mp.kps hk h2, fun i c hc => row_kps (h.node i c hc) hk (h3 c (List.mem_of_getElem? hc)).1, fun i c hc => ⟨own_kpsB (h.kid i c hc).1 hk (h3 c (List.mem_of_getElem? hc)).2, (h.kid i c hc).2⟩, h.ne, h.lo⟩
theorem CtAt.at_ (h : CtAt w base b mb M) {c : CNd} (hc : c ∈ M) : ∃ i : Nat, M[i]? = some c := by
  obtain ⟨i, hi, e⟩ := List.getElem_of_mem hc
  exact ⟨i, by rw [List.getElem?_eq_getElem hi, e]⟩
theorem CtAt.below (h : CtAt w base b mb M) (hb : Below w.heap.size w w') : CtAt w' base b mb M :=
  h.kps (F := fun k => k < w.heap.size) (Kps.below hb fun _ h _ => h) (Array.getElem?_eq_some_iff.1 h.box).1 h.mp.lt (fun c hc => by
    obtain ⟨i, hi⟩ := h.at_ hc
    exact ⟨(Array.getElem?_eq_some_iff.1 (h.node i c hi)).1, fun g hg => ((h.kid i c hi).1.lt g hg).2⟩)
/-- A block of cells of another type turns: the tree stays. -/
theorem CtAt.far (h : CtAt w base b mb M) {g : Nat} (hg : w.grownBy w' (some g)) {cs : Array Value} {T : TypeId} {fr : Nat × Nat} (hc : w.heap[g]? = some (.cells cs T fr)) (h1 : T ≠ 73 := by decide) (h2 : T ≠ 70 := by decide) (h3 : 67 ≠ T := by decide) : CtAt w' base b mb M :=
  h.kps (F := fun k => k ≠ g) (Kps.grown hg fun k _ hk e => hk (Option.some.inj e)) (fun e => by subst e; have := h.box; rw [hc] at this; exact h1 (by cases this; rfl)) (fun e => h.mp.ne hc e.symm) (fun c hcm => by
    obtain ⟨i, hi⟩ := h.at_ hcm
    exact ⟨fun e => by have := h.node i c hi; rw [e, hc] at this; exact h2 (by cases this; rfl), fun k hk e => own_ne' (h.kid i c hi).1 hc h3 (by rw [hk, e])⟩)
theorem CtAt.rowF (h : CtAt w base b mb M) {g : Nat} {cs : Array Value} {T : TypeId} {fr : Nat × Nat} (hc : w.heap[g]? = some (.cells cs T fr)) (h2 : T ≠ 70) (h3 : 67 ≠ T) : CF mb M g :=
  ⟨h.mp.ne hc, fun c hcm => by
    obtain ⟨i, hi⟩ := h.at_ hcm
    exact ⟨fun e => by have := h.node i c hi; rw [← e, hc] at this; exact h2 (by cases this; rfl), own_ne' (h.kid i c hi).1 hc h3⟩⟩
theorem CtAt.ownF (h : CtAt w base b mb M) {bs n k : Nat} {T : TypeId} {v : Value} {xs : List Value} (ho : w.ownsRow bs T k v n xs) (h2 : T ≠ 70) (h3 : 67 ≠ T) : ∀ g, v.ownBlock = some g → CF mb M g := fun g hg => by
  obtain ⟨c, fz, hc⟩ := Lib.ownsRow_kind ho g hg
  exact h.rowF hc h2 h3
theorem CtAt.oldF (h : CtAt w base b mb M) {g : Nat} (hg : g < base) : CF mb M g :=
  ⟨by have := h.lo; omega, fun c hcm => by
    obtain ⟨i, hi⟩ := h.at_ hcm
    have := h.lo.2.2 c hcm
    exact ⟨by omega, fun e => by have := ((h.kid i c hi).1.lt g e).1; omega⟩⟩
theorem CtAt.lt (h : CtAt w base b mb M) : b < w.heap.size := (Array.getElem?_eq_some_iff.1 h.box).1
theorem CtAt.mcell (h : CtAt w base b mb M) (hs : ((ndM M).getD 0 ndZ).id.length = 32) : w.cell? ⟨b, 32, none⟩ = some (.map (some mb)) := by
  rw [cell_of_row _ _ _ _ _ _ h.box]
  rw [List.getElem?_toArray, List.getElem?_append_right (by rw [List.length_map, hs]; exact Nat.le_refl _), List.length_map, hs]
  rfl
theorem CtAt.start (h : CtAt w base b mb M) : w.rangeAt b 0 (((ndM M).getD 0 ndZ).id.map bV) := by
  intro j v hj
  rw [Nat.zero_add, cell_of_row _ _ _ _ _ _ h.box, List.getElem?_toArray, List.getElem?_append_left (List.getElem?_eq_some_iff.1 hj).1]
  exact hj
end
section
variable {w : World} {g : Nat} {x : TNd} {p : Option Nat} {v : Value}
theorem cn_id (h : w.heap[g]? = some (.cells (cnL x p v).toArray 70 (0, 0))) : w.rangeAt g 0 (x.id.map bV) := by
  intro j u hj
  rw [Nat.zero_add, cell_of_row _ _ _ _ _ _ h, List.getElem?_toArray]
  unfold cnL
  rw [List.getElem?_append_left (List.getElem?_eq_some_iff.1 hj).1]
  exact hj
theorem cn_head (h : w.heap[g]? = some (.cells (cnL x p v).toArray 70 (0, 0))) (hi : x.id.length = 32) : w.rangeAt g 32 (hdL x.h) := by
  intro j u hj
  rw [cell_of_row _ _ _ _ _ _ h, List.getElem?_toArray]
  unfold cnL
  rw [List.getElem?_append_right (by simp [hi]), List.length_map, hi, Nat.add_sub_cancel_left, List.getElem?_append_left (List.getElem?_eq_some_iff.1 hj).1]
  exact hj
theorem cn_cells (h : w.heap[g]? = some (.cells (cnL x p v).toArray 70 (0, 0))) (hi : x.id.length = 32) (hh : HdOk x.h) : w.cell? ⟨g, 100, none⟩ = some (.int .i64 x.height) ∧ w.cell? ⟨g, 101, none⟩ = some (.int .u64 (x.work : Int)) ∧ w.cell? ⟨g, 102, none⟩ = some (nptr p) ∧ w.cell? ⟨g, 103, none⟩ = some v := by
  have key : ∀ k, k < 4 → (cnL x p v).toArray[100 + k]? = [Value.int .i64 x.height, .int .u64 (x.work : Int), nptr p, v][k]? := fun k hk => by
    rw [List.getElem?_toArray]
    unfold cnL
    rw [List.getElem?_append_right (by simp [hi]; omega), List.getElem?_append_right (by rw [hdL_length hh, List.length_map, hi]; omega), hdL_length hh, List.length_map, hi]
    congr 1
    omega
  refine ⟨?_, ?_, ?_, ?_⟩
  · rw [cell_of_row _ _ _ _ _ _ h]; exact key 0 (by omega)
  · rw [cell_of_row _ _ _ _ _ _ h]; exact key 1 (by omega)
  · rw [cell_of_row _ _ _ _ _ _ h]; exact key 2 (by omega)
  · rw [cell_of_row _ _ _ _ _ _ h]; exact key 3 (by omega)
end
/-- The map tells what the list does. -/
theorem getG_ids {M : List CNd} (hp : (ndM M).Pairwise fun x y => x.id ≠ y.id) {k : Nat} {c : CNd} (hc : M[k]? = some c) : getG (idsM M) c.nd.id = some (some c.ad) := by
  have h2 : (idsM M).Pairwise fun x y => x.1 ≠ y.1 := by
    unfold idsM
    unfold ndM at hp
    rw [List.pairwise_map] at hp ⊢
    exact hp
  have h3 : (idsM M)[k]? = some (c.nd.id, some c.ad) := by unfold idsM; rw [List.getElem?_map, hc]; rfl
  exact getG_some h2 h3 rfl
theorem getG_ids_none {M : List CNd} {id : List UInt8} (h : ∀ x ∈ ndM M, x.id ≠ id) : getG (idsM M) id = none := by
  refine getG_none fun x hx => ?_
  unfold idsM at hx
  obtain ⟨c, hc, rfl⟩ := List.mem_map.1 hx
  exact h c.nd (List.mem_map.2 ⟨c, hc, rfl⟩)
/-- What is found under an id: nothing, or the place. -/
theorem look_ids {M : List CNd} (hp : (ndM M).Pairwise fun x y => x.id ≠ y.id) (id : List UInt8) : (findT (ndM M) id = -1 ∧ getG (idsM M) id = none) ∨ ∃ (k : Nat) (c : CNd), findT (ndM M) id = (k : Int) ∧ M[k]? = some c ∧ c.nd.id = id ∧ getG (idsM M) id = some (some c.ad) := by
  rcases findT_cases (ndM M) id with ⟨h1, h2⟩ | ⟨k, x, h1, h2, h3, _⟩
  · exact .inl ⟨h1, getG_ids_none h2⟩
  · obtain ⟨c, hc, rfl⟩ := ndM_get h2
    exact .inr ⟨k, c, h1, hc, h3, by rw [← h3]; exact getG_ids hp hc⟩
/-- One more node, on the one at place p, whose row is now v. -/
def pushM (M : List CNd) (p : Nat) (v : Value) (x : TNd) (g : Nat) : List CNd := M.mapIdx (fun i c => if i = p then ⟨c.nd, c.ad, v⟩ else c) ++ [⟨x, g, .slice none 0 0⟩]
section
variable {M : List CNd} {p g : Nat} {v : Value} {x : TNd}
theorem pushM_nd : ndM (pushM M p v x g) = ndM M ++ [x] := by
  unfold ndM pushM
  rw [List.map_append, List.map_singleton]
  congr 1
  refine List.ext_getElem? fun i => ?_
  rw [List.getElem?_map, List.getElem?_mapIdx, List.getElem?_map]
  cases M[i]? with
  | none => rfl
  | some c => simp only [Option.map_some]; split <;> rfl
theorem pushM_length : (pushM M p v x g).length = M.length + 1 := by unfold pushM; simp
theorem pushM_at {i : Nat} {c : CNd} (h : (pushM M p v x g)[i]? = some c) : (i = M.length ∧ c = ⟨x, g, .slice none 0 0⟩) ∨ ∃ d, M[i]? = some d ∧ c.nd = d.nd ∧ c.ad = d.ad ∧ (i = p ∧ c.kids = v ∨ i ≠ p ∧ c.kids = d.kids) := by
  unfold pushM at h
  by_cases hi : i < M.length
  · rw [List.getElem?_append_left (by rw [List.length_mapIdx]; exact hi), List.getElem?_mapIdx, List.getElem?_eq_getElem hi] at h
    refine .inr ⟨_, List.getElem?_eq_getElem hi, ?_⟩
    simp only [Option.map_some, Option.some.injEq] at h
    split at h
    · next e => subst h; exact ⟨rfl, rfl, .inl ⟨e, rfl⟩⟩
    · next e => subst h; exact ⟨rfl, rfl, .inr ⟨e, rfl⟩⟩
  · have e : i = M.length := by have := (List.getElem?_eq_some_iff.1 h).1; simp at this; omega
    rw [List.getElem?_append_right (by rw [List.length_mapIdx]; omega), List.length_mapIdx, e, Nat.sub_self] at h
    exact .inl ⟨e, by injection h with h; exact h.symm⟩
theorem pushM_ad {i : Nat} (h : i < M.length) : cnP (pushM M p v x g) (i : Int) = cnP M (i : Int) := by
  obtain ⟨c, hc⟩ : ∃ c, (pushM M p v x g)[i]? = some c := ⟨_, List.getElem?_eq_getElem (by rw [pushM_length]; omega)⟩
  rw [cnP_at hc]
  rcases pushM_at hc with ⟨e, _⟩ | ⟨d, hd, _, e, _⟩
  · omega
  · rw [cnP_at hd, e]
theorem pushM_last : cnP (pushM M p v x g) (M.length : Int) = some g := by
  obtain ⟨c, hc⟩ : ∃ c, (pushM M p v x g)[M.length]? = some c := ⟨_, List.getElem?_eq_getElem (by rw [pushM_length]; omega)⟩
  rw [cnP_at hc]
  rcases pushM_at hc with ⟨_, rfl⟩ | ⟨d, hd, _⟩
  · rfl
  · have := (List.getElem?_eq_some_iff.1 hd).1; omega
theorem pushM_ids : idsM (pushM M p v x g) = idsM M ++ [(x.id, some g)] := by
  unfold idsM pushM
  rw [List.map_append, List.map_singleton]
  congr 1
  refine List.ext_getElem? fun i => ?_
  rw [List.getElem?_map, List.getElem?_mapIdx, List.getElem?_map]
  cases M[i]? with
  | none => rfl
  | some c => simp only [Option.map_some]; split <;> rfl
theorem pushM_kids {i : Nat} : kidsM (pushM M p v x g) i = kidsM M i ++ (if x.parent = (i : Int) then [[nptr (some g)]] else []) := by
  unfold kidsM
  rw [pushM_nd, kidsI_push, List.map_append]
  congr 1
  · refine List.map_congr_left fun j hj => ?_
    rw [pushM_ad (by have := kidsI_lt hj; rwa [ndM_length] at this)]
  · split
    · rw [List.map_singleton, ndM_length, pushM_last]
    · rfl
end
section
variable {w w' : World} {base b mb : Nat} {M : List CNd}
theorem CtAt.push (h : CtAt w base b mb M) (hd : Down (ndM M)) {p : Nat} {c : CNd} (hc : M[p]? = some c) {x : TNd} {g : Nat} {v : Value}
    (hp : x.parent = (p : Int)) (hk : Kps (fun j => j ≠ mb ∧ j ≠ c.ad ∧ c.kids.ownBlock ≠ some j) w w') (hg : w.heap.size ≤ g) (hbs : base ≤ w.heap.size)
    (h1 : w'.heap[c.ad]? = some (.cells (cnL c.nd (cnP M c.nd.parent) v).toArray 70 (0, 0)))
    (h2 : RwOwn 1 67 base w' v (kidsM M p ++ [[nptr (some g)]]))
    (h3 : w'.heap[g]? = some (.cells (cnL x (some c.ad) (.slice none 0 0)).toArray 70 (0, 0)))
    (h4 : v.ownBlock = c.kids.ownBlock ∨ ∃ q, v.ownBlock = some q ∧ w.heap.size ≤ q)
    (h5 : MpAt hK nptr (fun h => h.length = 32) w' mb (idsM M ++ [(x.id, some g)])) : CtAt w' base b mb (pushM M p v x g) := by
  have hpl : p < M.length := (List.getElem?_eq_some_iff.1 hc).1
  have hds : ∀ (i : Nat) (d : CNd), M[i]? = some d → i ≠ p → w'.heap[d.ad]? = w.heap[d.ad]? := fun i d hi hip => by
    refine hk.block _ (Array.getElem?_eq_some_iff.1 (h.node i d hi)).1 ⟨fun e => h.mp.ne (h.node i d hi) e, (h.ne i p d c hi hc hip).1, own_ne' (h.kid p c hc).1 (h.node i d hi) (by decide)⟩
  refine ⟨?_, by rw [pushM_ids]; exact h5, fun i d hi => ?_, fun i d hi => ?_, fun i j d e hi hj hij => ?_, h.lo.1, h.lo.2.1, fun d hdm => ?_⟩
  · have e : (ndM (pushM M p v x g)).getD 0 ndZ = (ndM M).getD 0 ndZ := by
      rw [pushM_nd, List.getD_eq_getElem?_getD, List.getElem?_append_left (by rw [ndM_length]; omega), ← List.getD_eq_getElem?_getD]
    rw [e]
    exact row_kps h.box hk ⟨fun e => h.mp.ne h.box e, fun e => by have q := h.node p c hc; rw [← e, h.box] at q; exact absurd (show 73 = 70 by injection q with q; injection q) (by decide), own_ne' (h.kid p c hc).1 h.box (by decide)⟩
  · rcases pushM_at hi with ⟨e, rfl⟩ | ⟨d', hd', e1, e2, e3⟩
    · show w'.heap[g]? = _
      rw [h3]
      show _ = some (Obj.cells (cnL x (cnP (pushM M p v x g) x.parent) _).toArray _ _)
      rw [hp, pushM_ad hpl, cnP_at hc]
    · have hpar : cnP (pushM M p v x g) d'.nd.parent = cnP M d'.nd.parent := by
        have hdn := hd i d'.nd (ndM_at hd')
        have hil := (List.getElem?_eq_some_iff.1 hd').1
        by_cases hneg : d'.nd.parent < 0
        · rw [cnP_neg hneg, cnP_neg hneg]
        · obtain ⟨q, hq⟩ : ∃ q : Nat, d'.nd.parent = (q : Int) := ⟨d'.nd.parent.toNat, by omega⟩
          rw [hq, pushM_ad (by omega)]
      rw [e1, e2, hpar]
      rcases e3 with ⟨rfl, e3⟩ | ⟨e3, e4⟩
      · rw [hc] at hd'
        cases hd'
        rw [e3]
        exact h1
      · rw [e4, hds i d' hd' e3]
        exact h.node i d' hd'
  · rw [pushM_kids]
    rcases pushM_at hi with ⟨e, rfl⟩ | ⟨d', hd', e1, e2, e3⟩
    · have e0 : kidsM M i = [] := by
        unfold kidsM
        have := kidsI_last hd (y := x) (by rw [hp, ndM_length]; omega)
        rw [kidsI_push, ndM_length, if_neg (by omega), List.append_nil] at this
        rw [e, this]
        rfl
      rw [e0, if_neg (by rw [hp]; omega)]
      exact RwOwn.nil 1 _ base w'
    · rcases e3 with ⟨rfl, e3⟩ | ⟨e3, e4⟩
      · rw [if_pos hp, e3]
        exact h2
      · rw [if_neg (by rw [hp]; omega), List.append_nil, e4]
        refine ⟨own_kpsB (h.kid i d' hd').1 hk fun q hq => ?_, (h.kid i d' hd').2⟩
        refine ⟨fun e => own_nemap h.mp (h.kid i d' hd').1 (by rw [hq, e]), fun e => own_ne' (h.kid i d' hd').1 (h.node p c hc) (by decide) (by rw [hq, e]), fun e => ?_⟩
        rcases (h.ne i p d' c hd' hc e3).2 with hn | hn
        · rw [hn] at hq; cases hq
        · exact hn (by rw [hq, e])
  · have hlt : ∀ (i : Nat) (d : CNd), M[i]? = some d → d.ad < w.heap.size := fun i d hi => (Array.getElem?_eq_some_iff.1 (h.node i d hi)).1
    have hlk : ∀ (i : Nat) (d : CNd), M[i]? = some d → ∀ q, d.kids.ownBlock = some q → q < w.heap.size := fun i d hi q hq => ((h.kid i d hi).1.lt q hq).2
    have hv : ∀ (i : Nat) (d : CNd), M[i]? = some d → i ≠ p → (d.kids.ownBlock = none ∨ d.kids.ownBlock ≠ v.ownBlock) ∧ (v.ownBlock = none ∨ v.ownBlock ≠ d.kids.ownBlock) := fun i d hi hip => by
      rcases h4 with e | ⟨q, e, hq⟩
      · rw [e]
        exact ⟨(h.ne i p d c hi hc hip).2, (h.ne p i c d hc hi (fun e => hip e.symm)).2⟩
      · rw [e]
        exact ⟨.inr fun e2 => by have := hlk i d hi q e2; omega, .inr fun e2 => by have := hlk i d hi q e2.symm; omega⟩
    rcases pushM_at hi with ⟨ei, rfl⟩ | ⟨d', hd', a1, a2, a3⟩
    · rcases pushM_at hj with ⟨ej, rfl⟩ | ⟨d2, hd2, b1, b2, b3⟩
      · omega
      · exact ⟨by rw [b2]; have := hlt j d2 hd2; show g ≠ _; omega, .inl rfl⟩
    · rcases pushM_at hj with ⟨ej, rfl⟩ | ⟨d2, hd2, b1, b2, b3⟩
      · refine ⟨by rw [a2]; have := hlt i d' hd'; show _ ≠ g; omega, ?_⟩
        cases hq : d.kids.ownBlock with
        | none => exact .inl rfl
        | some q => exact .inr (fun e => by cases e)
      · refine ⟨by rw [a2, b2]; exact (h.ne i j d' d2 hd' hd2 hij).1, ?_⟩
        rcases a3 with ⟨rfl, a3⟩ | ⟨a3, a4⟩
        · rcases b3 with ⟨rfl, b3⟩ | ⟨b3, b4⟩
          · exact absurd rfl hij
          · rw [a3, b4]; exact (hv j d2 hd2 b3).2
        · rcases b3 with ⟨rfl, b3⟩ | ⟨b3, b4⟩
          · rw [a4, b3]; exact (hv i d' hd' a3).1
          · rw [a4, b4]; exact (h.ne i j d' d2 hd' hd2 hij).2
  · obtain ⟨i, hi, e⟩ := List.getElem_of_mem hdm
    rcases pushM_at (show (pushM M p v x g)[i]? = some d by rw [List.getElem?_eq_getElem hi, e]) with ⟨_, rfl⟩ | ⟨d', hd', _, e2, _⟩
    · show base ≤ g; omega
    · rw [e2]; exact h.lo.2.2 d' (List.mem_of_getElem? hd')
end
end Go.Proofs.YtdhcjaflbfpalaaGreatDoor.Sha

/-
  The program's tree: down to a height, where two chains meet, the ids above a node. Nothing that was there turns. Conditions: the tree lies where it should, nodes as the model has them.
-/
namespace Go.Proofs.YtdhcjaflbfpalaaGreatDoor.Sha
open Go Go.RowKit
theorem anc_chainAt {L : List TNd} {k t : Int} {j : Int} (h0 : 0 ≤ t) (h : ancT L k t = some j) : (chainT L k)[t.toNat]? = some j := by
  unfold ancT at h
  rwa [if_neg (by omega)] at h
theorem chain_ok {L : List TNd} (h : TrL L) {k t : Nat} {x : TNd} {j : Int} (hx : L[k]? = some x) (hj : (chainT L (k : Int))[t]? = some j) : ∃ (i : Nat) (y : TNd), j = (i : Int) ∧ L[i]? = some y ∧ y.height = (t : Int) := by
  have hl := chain_length h hx
  have ht := (List.getElem?_eq_some_iff.1 hj).1
  obtain ⟨i, y, h1, _, h2, h3⟩ := anc_is h k k x (t : Int) (Nat.le_refl _) hx (by omega) (by omega)
  have h4 := anc_chainAt (by omega) h1
  rw [Int.toNat_natCast, hj] at h4
  exact ⟨i, y, by injection h4, h2, h3⟩
theorem chain_prev {L : List TNd} (h : TrL L) {k t : Nat} {x : TNd} {j : Nat} {y : TNd} (hx : L[k]? = some x) (hj : (chainT L (k : Int))[t + 1]? = some (j : Int)) (hy : L[j]? = some y) : ∃ (p : Nat) (z : TNd), y.parent = (p : Int) ∧ L[p]? = some z ∧ (chainT L (k : Int))[t]? = some (p : Int) := by
  obtain ⟨i, y', e, hy', hh⟩ := chain_ok h hx hj
  have e : j = i := by omega
  subst e
  rw [hy] at hy'
  cases hy'
  rcases h.parent hy with ⟨_, _, h3⟩ | ⟨p, z, _, h3, h4, h5⟩
  · omega
  · refine ⟨p, z, h3, h4, ?_⟩
    have q := anc_chain h k k x j (t + 1) (Nat.le_refl _) hx hj
    have e2 : ((chainT L (k : Int)).take (t + 1 + 1))[t]? = (chainT L (j : Int))[t]? := by rw [q]
    rw [List.getElem?_take_of_lt (by omega)] at e2
    rw [e2, chain_step h.down hy, h3]
    have hl := chain_length h h4
    rw [List.getElem?_append_left (by omega)]
    have q2 := anc_self h h4
    have q3 := anc_chainAt (by omega) q2
    rw [show z.height.toNat = t by omega] at q3
    exact q3
section
variable {w : World} {base b mb : Nat} {M : List CNd}
/-- A node's cells, in every later world. -/
theorem CtAt.cells (h : CtAt w base b mb M) (ht : TrL (ndM M)) {i : Nat} {c : CNd} (hc : M[i]? = some c) {W : World} (hW : Below w.heap.size w W) : W.cell? ⟨c.ad, 100, none⟩ = some (.int .i64 c.nd.height) ∧ W.cell? ⟨c.ad, 101, none⟩ = some (.int .u64 (c.nd.work : Int)) ∧ W.cell? ⟨c.ad, 102, none⟩ = some (nptr (cnP M c.nd.parent)) ∧ W.cell? ⟨c.ad, 103, none⟩ = some c.kids :=
  have ok := ht.ok _ (List.mem_of_getElem? (ndM_at hc))
  cn_cells ((h.below hW).node i c hc) ok.1 ok.2.1
theorem CtAt.idr (h : CtAt w base b mb M) {i : Nat} {c : CNd} (hc : M[i]? = some c) {W : World} (hW : Below w.heap.size w W) : W.rangeAt c.ad 0 (c.nd.id.map bV) := cn_id ((h.below hW).node i c hc)
end
end Go.Proofs.YtdhcjaflbfpalaaGreatDoor.Sha

/-
  Headers that grow each upon an earlier one, the tree that they make, the ways in it: plain mathematics. No conditions.
-/
namespace Go.Proofs.YtdhcjaflbfpalaaGreatDoor.Sha
open Go Go.RowKit
/-- The header that number x makes, behind out. -/
def growH (out : List THd) (i : Nat) (x : Int) : THd :=
  ⟨i % 4294967296, hdId (out.getD (numb x out.length).toNat startX.head), zH, ((out.getD (numb x out.length).toNat startX.head).time + (numb (x.tdiv 64) 30).toNat) % 4294967296, 1 + (numb (x.tdiv 2048) 4).toNat, 0⟩
theorem growH_ok (out : List THd) (i : Nat) (x : Int) : HdOk (growH out i x) := by
  have h4 := numb_bd (x.tdiv 2048) 4 (by omega)
  refine ⟨?_, hdId_length _, rfl, ?_, ?_, ?_⟩
  · show i % 4294967296 ≤ _; omega
  · show _ % 4294967296 ≤ _; omega
  · show 1 + (numb (x.tdiv 2048) 4).toNat ≤ _; omega
  · show 0 ≤ _; omega
def grownN (z : Nat → Int) : Nat → List THd
  | 0 => [startX.head]
  | k + 1 => grownN z k ++ [growH (grownN z k) k (z k)]
theorem grownN_length (z : Nat → Int) : ∀ k, (grownN z k).length = k + 1
  | 0 => rfl
  | k + 1 => by rw [grownN, List.length_append, grownN_length z k]; rfl
theorem grownN_ok (z : Nat → Int) : ∀ k, ∀ h ∈ grownN z k, HdOk h
  | 0, h, hh => by rcases List.mem_singleton.1 hh with rfl; exact startX_ok
  | k + 1, h, hh => by
    rcases List.mem_append.1 hh with h1 | h1
    · exact grownN_ok z k h h1
    · rcases List.mem_singleton.1 h1 with rfl; exact growH_ok _ _ _
def hdAt (z : Nat → Int) (j : Nat) : THd := (grownN z j).getD j startX.head
theorem grownN_get (z : Nat → Int) : ∀ (k j : Nat), j ≤ k → (grownN z k)[j]? = some (hdAt z j)
  | 0, j, h => by
    obtain rfl : j = 0 := by omega
    rfl
  | k + 1, j, h => by
    by_cases e : j = k + 1
    · subst e
      unfold hdAt
      rw [List.getD_eq_getElem?_getD, List.getElem?_eq_getElem (by rw [grownN_length]; omega)]
      rfl
    · rw [grownN, List.getElem?_append_left (by rw [grownN_length]; omega)]
      exact grownN_get z k j (by omega)
theorem hdAt_ok (z : Nat → Int) (j : Nat) : HdOk (hdAt z j) := grownN_ok z j _ (List.mem_of_getElem? (grownN_get z j j (Nat.le_refl _)))
theorem hdAt_succ (z : Nat → Int) (j : Nat) : hdAt z (j + 1) = growH (grownN z j) j (z j) := by
  have h := grownN_get z (j + 1) (j + 1) (Nat.le_refl _)
  rw [grownN, List.getElem?_append_right (by rw [grownN_length]; omega), grownN_length, Nat.sub_self] at h
  injection h with h
  exact h.symm
theorem hdAt_prev (z : Nat → Int) (j : Nat) : ∃ i, i ≤ j ∧ (hdAt z (j + 1)).prev = hdId (hdAt z i) := by
  have hb := numb_bd (z j) ((grownN z j).length : Int) (by rw [grownN_length]; omega)
  rw [grownN_length] at hb
  refine ⟨(numb (z j) ((grownN z j).length : Int)).toNat, by rw [grownN_length]; omega, ?_⟩
  rw [hdAt_succ]
  show hdId _ = _
  rw [List.getD_eq_getElem?_getD, grownN_get z j _ (by rw [grownN_length]; omega)]
  rfl
/-- A header taken in, or not. -/
def addT (L : List TNd) (h : THd) : List TNd := if addE L h = 0 then L ++ [nxT L h] else L
def treeN (z : Nat → Int) : Nat → List TNd
  | 0 => [stT (hdAt z 0)]
  | k + 1 => addT (treeN z k) (hdAt z (k + 1))
def Hung (L : List TNd) : Prop := ∀ (i : Nat) (x : TNd), L[i]? = some x → 0 ≤ x.parent → (L.getD x.parent.toNat ndZ).id = x.h.prev
theorem findT_id {L : List TNd} (h : TrL L) {j : Nat} {y : TNd} (hy : L[j]? = some y) : findT L y.id = (j : Int) :=
  findT_some hy rfl fun i x hi hx => by
    have hp := List.pairwise_iff_getElem.1 h.ids i j (List.getElem?_eq_some_iff.1 hx).1 (List.getElem?_eq_some_iff.1 hy).1 hi
    rw [(List.getElem?_eq_some_iff.1 hx).2, (List.getElem?_eq_some_iff.1 hy).2] at hp
    exact hp
theorem findT_push {L : List TNd} {id : List UInt8} (x : TNd) (h : 0 ≤ findT L id) : findT (L ++ [x]) id = findT L id := by
  rcases findT_cases L id with ⟨e, _⟩ | ⟨k, y, e, hy, hi, hlt⟩
  · omega
  · rw [e]
    have hk := (List.getElem?_eq_some_iff.1 hy).1
    exact findT_some (by rw [List.getElem?_append_left hk]; exact hy) hi fun j z hj hz => hlt j z hj (by rw [List.getElem?_append_left (by omega)] at hz; exact hz)
theorem findT_last {L : List TNd} (x : TNd) (h : ∀ y ∈ L, y.id ≠ x.id) : findT (L ++ [x]) x.id = (L.length : Int) :=
  findT_some (by rw [List.getElem?_append_right (Nat.le_refl _), Nat.sub_self]; rfl) rfl fun j z hj hz => h z (by rw [List.getElem?_append_left hj] at hz; exact List.mem_of_getElem? hz)
structure TwI (z : Nat → Int) (k : Nat) (L : List TNd) : Prop where
  tr : TrL L
  hung : Hung L
  has : ∀ j, j ≤ k → 0 ≤ findT L (hdId (hdAt z j))
  len : L.length ≤ k + 1
theorem Hung.push {L : List TNd} {hd : THd} (h : Hung L) (ht : TrL L) (ha : addE L hd = 0) : Hung (L ++ [nxT L hd]) := by
  intro i x hx hp
  by_cases hi : i < L.length
  · rw [List.getElem?_append_left hi] at hx
    have hd' := ht.down _ _ hx
    rw [List.getD_eq_getElem?_getD, List.getElem?_append_left (by omega), ← List.getD_eq_getElem?_getD]
    exact h i x hx hp
  · have e : i = L.length := by have := (List.getElem?_eq_some_iff.1 hx).1; simp at this; omega
    rw [e, List.getElem?_append_right (Nat.le_refl _), Nat.sub_self] at hx
    cases hx
    unfold addE at ha
    split at ha
    · omega
    split at ha
    · omega
    rename_i h1 h2
    rcases findT_cases L hd.prev with ⟨e, _⟩ | ⟨k, y, e, hy, hi, _⟩
    · omega
    · have hk := (List.getElem?_eq_some_iff.1 hy).1
      have ep : (nxT L hd).parent = (k : Int) := e
      rw [ep, Int.toNat_natCast, List.getD_eq_getElem?_getD, List.getElem?_append_left hk, hy]
      exact hi
theorem TwI.start (z : Nat → Int) : TwI z 0 (treeN z 0) := by
  refine ⟨stT_tr (hdAt_ok z 0), fun i x hx hp => ?_, fun j hj => ?_, Nat.le_refl _⟩
  · cases i with
    | zero => cases hx; exact absurd hp (by show ¬ (0 : Int) ≤ -1; omega)
    | succ i => cases hx
  · obtain rfl : j = 0 := by omega
    have e := findT_some (L := treeN z 0) (id := hdId (hdAt z 0)) (k := 0) (x := stT (hdAt z 0)) rfl rfl (fun j y hj => by omega)
    omega
theorem TwI.step {z : Nat → Int} {k : Nat} {L : List TNd} (h : TwI z k L) (hk : k ≤ 100) : TwI z (k + 1) (addT L (hdAt z (k + 1))) := by
  obtain ⟨i, hi, hp⟩ := hdAt_prev z k
  have hpf := h.has i hi
  rw [← hp] at hpf
  have hl := h.len
  unfold addT
  by_cases h9 : 0 ≤ findT L (hdId (hdAt z (k + 1)))
  · have e : addE L (hdAt z (k + 1)) = 109 := by unfold addE; rw [if_pos h9]
    rw [if_neg (by omega)]
    refine ⟨h.tr, h.hung, fun j hj => ?_, by omega⟩
    by_cases hj2 : j = k + 1
    · subst hj2; exact h9
    · exact h.has j (by omega)
  · have e : addE L (hdAt z (k + 1)) = 0 := by unfold addE; rw [if_neg h9, if_neg (by omega), if_neg (by omega)]
    rw [if_pos e]
    refine ⟨h.tr.push (hdAt_ok z _) e, h.hung.push h.tr e, fun j hj => ?_, by rw [List.length_append]; simp; omega⟩
    by_cases hj2 : j = k + 1
    · subst hj2
      have hno : ∀ y ∈ L, y.id ≠ hdId (hdAt z (k + 1)) := by
        rcases findT_cases L (hdId (hdAt z (k + 1))) with ⟨_, q⟩ | ⟨q, x, q1, _⟩
        · exact q
        · omega
      have := findT_last (nxT L (hdAt z (k + 1))) hno
      have e2 : (nxT L (hdAt z (k + 1))).id = hdId (hdAt z (k + 1)) := rfl
      rw [e2] at this
      rw [this]
      omega
    · rw [findT_push _ (h.has j (by omega))]
      exact h.has j (by omega)
/-- The id of the one so far down a chain. -/
def upId (L : List TNd) (x : Int) (n : Nat) : List UInt8 := (L.getD ((upL L x).getD n 0).toNat ndZ).id
/-- Of two blocks: how far down each of them what they have in common lies. -/
structure TwP (L : List TNd) (x y : Int) (nb nc : Nat) : Prop where
  back : backT L x y = idsT L ((upL L x).take nb)
  on : onT L x y = (idsT L ((upL L y).take nc)).reverse
  down : backT L y x = idsT L ((upL L y).take nc)
  up : onT L y x = (idsT L ((upL L x).take nb)).reverse
  lb : nb < (upL L x).length
  lc : nc < (upL L y).length
  mb : meetT L x y = upId L x nb
  mc : meetT L x y = upId L y nc
end Go.Proofs.YtdhcjaflbfpalaaGreatDoor.Sha

/-
  digest.Less tells whether one digest stands ahead of another, byte by byte; nothing that was there turns. Condition: digests of 32 bytes.
-/
namespace Go.Proofs.YtdhcjaflbfpalaaGreatDoor.Sha
open Go Go.RowKit
theorem bytesOf_bv (l : List UInt8) : Lib.bytesOf (l.map bv) = l := by
  unfold Lib.bytesOf
  rw [List.map_map]
  conv => rhs; rw [← List.map_id l]
  apply List.map_congr_left
  intro x _
  show _ = x
  simp [bv]
theorem run_bytes {P : Program} {w : World} (l : List UInt8) (b off cap : Nat) (h : ∀ j, j < l.length → w.cell? ⟨b, off + j, none⟩ = some (.int .u8 (bv (l.getD j 0)))) :
    (Extern.Bytes.bytesOf (.slice (some ⟨b, off, none⟩) l.length cap)).run P w = .ok ⟨l.toArray⟩ w := by
  have := Lib.run_loadBytesX (P := P) w (l.map bv) ⟨b, off, none⟩ .empty (fun j x hj => by
    have hj1 : j < l.length := by have := (List.getElem?_eq_some_iff.1 hj).1; rwa [List.length_map] at this
    rw [Addr.add_mid, h j hj1]
    rw [List.getElem?_map, List.getElem?_eq_getElem hj1] at hj
    simp only [Option.map_some, Option.some.injEq] at hj
    rw [← hj]
    simp [List.getD, List.getElem?_eq_getElem hj1])
  rw [List.length_map, bytesOf_bv] at this
  show (Extern.Bytes.loadBytes _ _ _).run P w = _
  rw [this]
  simp
theorem run_compare {P : Program} {w : World} (l m : List UInt8) (b c off off' cap cap' : Nat) (h : ∀ j, j < l.length → w.cell? ⟨b, off + j, none⟩ = some (.int .u8 (bv (l.getD j 0))))
    (h' : ∀ j, j < m.length → w.cell? ⟨c, off' + j, none⟩ = some (.int .u8 (bv (m.getD j 0)))) :
    (Extern.BytealgCompare.compare #[.slice (some ⟨b, off, none⟩) l.length cap, .slice (some ⟨c, off', none⟩) m.length cap']).run P w = .ok (.int .i64 (Lib.compareBytes l m)) w := by
  change Sem.run P (do pure (goInt (Extern.BytealgCompare.cmp (← Extern.Bytes.bytesOf (.slice (some ⟨b, off, none⟩) l.length cap)) (← Extern.Bytes.bytesOf (.slice (some ⟨c, off', none⟩) m.length cap'))))) w = _
  simp only [Sem.run_bind, run_bytes l b off cap h, run_bytes m c off' cap' h', Sem.run_pure, Result.andThen]
  rw [Lib.cmp_eq]
  rfl
set_option maxRecDepth 100000 in
theorem compare_any (l m : List UInt8) (n n' b c off off' cap cap' : Nat) (w : World) (hn : n = l.length) (hn' : n' = m.length) (h : ∀ j, j < l.length → w.cell? ⟨b, off + j, none⟩ = some (.int .u8 (bv (l.getD j 0))))
    (h' : ∀ j, j < m.length → w.cell? ⟨c, off' + j, none⟩ = some (.int .u8 (bv (m.getD j 0)))) :
    Calls Tryz.prog 69 #[.slice (some ⟨b, off, none⟩) n cap, .slice (some ⟨c, off', none⟩) n' cap'] w fun e w' => e = .returned (.int .i64 (Lib.compareBytes l m)) ∧ w = w' := by
  subst hn hn'
  have HR := Lib.hid (run_compare (P := Tryz.prog) l m b c off off' cap cap' h h')
  clear h h'
  go_enter Tryz.func69, Tryz.ntmps69
  go_wp2
  rw [run_callFunc_extern Tryz.func96 (by kernel_rfl) (by kernel_rfl) (by kernel_rfl) (e := Extern.BytealgCompare.compare) (by kernel_rfl), HR.out]
  simp only [Result.andThen]
  rw [Oper.upon_value]
  go_wp2
  go_ret
  exact ⟨rfl, rfl⟩
def lessL (l m : List UInt8) : Bool := decide (Lib.compareBytes l m < 0)
theorem less_cons (x y : UInt8) (l m : List UInt8) : lessL (x :: l) (y :: m) = (decide (x < y) || (decide (x = y) && lessL l m)) := by
  unfold lessL
  simp only [Lib.compareBytes]
  by_cases h1 : x < y
  · simp [h1]
  · by_cases h2 : y < x
    · have h3 : ¬ x = y := fun e => by subst e; exact h1 h2
      simp [h1, h2, h3]
    · have h3 : x = y := UInt8.le_antisymm (UInt8.not_lt.1 h2) (UInt8.not_lt.1 h1)
      subst h3
      simp [h1]
theorem less_self (l : List UInt8) : lessL l l = false := by
  induction l with
  | nil => rfl
  | cons x l ih => rw [less_cons, ih]; simp
set_option maxRecDepth 100000 in
theorem less_any (l m : List UInt8) (hl : l.length = 32) (hm : m.length = 32) (w : World) :
    Calls Tryz.prog 47 #[.agg (l.map bV).toArray, .agg (m.map bV).toArray] w fun e w' => e = .returned (.bool (lessL l m)) ∧ Below w.heap.size w w' := by
  have HL := Lib.hid hl
  have HM := Lib.hid hm
  have hb : Below w.heap.size w ((w.alloc (.cells (l.map bV).toArray 26)).alloc (.cells (m.map bV).toArray 26)) := ((Below.refl _ _).alloc (Nat.le_refl _) _).alloc (by simp) _
  have h1 : ∀ j, j < l.length → ((w.alloc (.cells (l.map bV).toArray 26)).alloc (.cells (m.map bV).toArray 26)).cell? ⟨w.heap.size, 0 + j, none⟩ = some (.int .u8 (bv (l.getD j 0))) := fun j hj => by
    rw [Nat.zero_add, cell_of_row _ _ _ _ _ _ (heap_alloc2_old w _ _), bV_get _ _ hj]
  have h2 : ∀ j, j < m.length → ((w.alloc (.cells (l.map bV).toArray 26)).alloc (.cells (m.map bV).toArray 26)).cell? ⟨w.heap.size + 1, 0 + j, none⟩ = some (.int .u8 (bv (m.getD j 0))) := fun j hj => by
    rw [Nat.zero_add, cell_of_row _ _ _ _ _ _ (heap_alloc2_new w _ _), bV_get _ _ hj]
  have HB := Lib.hid hb
  have H1 := Lib.hid h1
  have H2 := Lib.hid h2
  clear hl hm hb h1 h2
  go_enter Tryz.func47, Tryz.ntmps47
  go_wp2_with fail
  generalize hw2 : World.alloc _ _ = w2
  rw [hw2] at HB H1 H2
  clear hw2
  obtain ⟨z, hz⟩ : ∃ z, Lib.compareBytes l m = z := ⟨_, rfl⟩
  have HC : ∀ n, Hid (Calls Tryz.prog 69 #[.slice (some ⟨w.heap.size, 0, none⟩) 32 32, .slice (some ⟨w.heap.size + 1, 0, none⟩) 32 32] (w2.drewN n) fun e w' => e = .returned (.int .i64 z) ∧ w' = w2.drewN n) := fun n => by
    have := compare_any l m 32 32 w.heap.size (w.heap.size + 1) 0 0 32 32 (w2.drewN n) HL.out.symm HM.out.symm H1.out H2.out
    rw [hz] at this
    exact same_of this
  have HZ := Lib.hid hz
  clear hz
  go_quiet ((go_at_call 69; exact Calls.quiet_of_same (HC _).out))
  go_wp2_with fail
  go_ret
  exact ⟨by unfold lessL; rw [HZ.out]; rfl, below_drewN HB.out _⟩
end Go.Proofs.YtdhcjaflbfpalaaGreatDoor.Sha

/-
  The order of digests and of places: of two unlike ones just one is less; less and less is less. Condition: digests of one length.
-/
namespace Go.Proofs.YtdhcjaflbfpalaaGreatDoor.Sha
open Go Go.RowKit
theorem less_asym : ∀ (l m : List UInt8), l.length = m.length → lessL l m = true → lessL m l = false
  | [], [], _, h => by cases h
  | x :: l, y :: m, hl, h => by
    rw [less_cons] at h ⊢
    simp only [Bool.or_eq_true, Bool.and_eq_true, decide_eq_true_eq] at h
    rcases h with h | ⟨rfl, h⟩
    · have h1 : ¬ y < x := fun h2 => absurd (UInt8.lt_trans h h2) (UInt8.lt_irrefl x)
      have h2 : ¬ y = x := fun e => by subst e; exact absurd h (UInt8.lt_irrefl y)
      simp [h1, h2]
    · rw [less_asym l m (by simpa using hl) h]
      simp [UInt8.lt_irrefl]
theorem less_total : ∀ (l m : List UInt8), l.length = m.length → l ≠ m → lessL l m = false → lessL m l = true
  | [], [], _, h, _ => absurd rfl h
  | x :: l, y :: m, hl, hne, h => by
    rw [less_cons] at h ⊢
    simp only [Bool.or_eq_false_iff, Bool.and_eq_false_iff, decide_eq_false_iff_not] at h
    by_cases e : x = y
    · subst e
      have h1 : lessL l m = false := by rcases h.2 with h2 | h2 <;> simp_all
      rw [less_total l m (by simpa using hl) (fun e => hne (by rw [e])) h1]
      simp
    · have : y < x := UInt8.lt_of_le_of_ne (UInt8.not_lt.1 h.1) (fun e' => e e'.symm)
      simp [this]
theorem less_trans : ∀ (l m k : List UInt8), l.length = m.length → m.length = k.length → lessL l m = true → lessL m k = true → lessL l k = true
  | [], [], _, _, _, h, _ => by cases h
  | x :: l, y :: m, z :: k, h1, h2, h, h' => by
    rw [less_cons] at h h' ⊢
    simp only [Bool.or_eq_true, Bool.and_eq_true, decide_eq_true_eq] at h h' ⊢
    rcases h with h | ⟨rfl, h⟩ <;> rcases h' with h' | ⟨rfl, h'⟩
    · exact .inl (UInt8.lt_trans h h')
    · exact .inl h
    · exact .inl h'
    · exact .inr ⟨rfl, less_trans l m k (by simpa using h1) (by simpa using h2) h h'⟩
end Go.Proofs.YtdhcjaflbfpalaaGreatDoor.Sha

/-
  What stands under a node of a tree, and a walk over its children that comes by each of them once; digests that rise, each once. No conditions beyond those that each states.
-/
namespace Go.Proofs.YtdhcjaflbfpalaaGreatDoor.Sha
open Go Go.RowKit
def subI (L : List TNd) (i : Nat) : List Nat := (List.range L.length).filter fun j : Nat => belT L (j : Int) (i : Int)
theorem sub_mem {L : List TNd} {i j : Nat} : j ∈ subI L i ↔ j < L.length ∧ belT L (j : Int) (i : Int) = true := by
  unfold subI
  rw [List.mem_filter, List.mem_range]
theorem sub_nodup (L : List TNd) (i : Nat) : (subI L i).Nodup := List.nodup_range.filter _
theorem sub_le (L : List TNd) (i : Nat) : (subI L i).length ≤ L.length := by
  have h := List.length_filter_le (fun j : Nat => belT L (j : Int) (i : Int)) (List.range L.length)
  rwa [List.length_range] at h
theorem node_at {L : List TNd} {i : Nat} (h : i < L.length) : ∃ x, L[i]? = some x := ⟨_, List.getElem?_eq_getElem h⟩
theorem bel_iff {L : List TNd} (h : TrL L) {i j : Nat} {x y : TNd} (hx : L[i]? = some x) (hy : L[j]? = some y) : belT L (j : Int) (i : Int) = true ↔ (chainT L (j : Int))[x.height.toNat]? = some (i : Int) := by
  have e : belT L (j : Int) (i : Int) = true ↔ (i : Int) ∈ chainT L (j : Int) := by
    unfold belT chainT
    rw [List.contains_iff_mem, List.mem_reverse]
  rw [e]
  constructor
  · intro hm
    obtain ⟨t, ht⟩ := List.mem_iff_getElem?.1 hm
    obtain ⟨i', z, e1, hz, e2⟩ := chain_ok h hy ht
    have e3 : i' = i := by omega
    subst e3
    rw [hx] at hz
    have e4 := Option.some.inj hz
    subst e4
    rw [e2, Int.toNat_natCast]
    exact ht
  · exact fun ht => List.mem_of_getElem? ht
theorem chain_self {L : List TNd} (h : TrL L) {i : Nat} {x : TNd} (hx : L[i]? = some x) : (chainT L (i : Int))[x.height.toNat]? = some (i : Int) := anc_chainAt (h.height hx).1 (anc_self h hx)
theorem sub_self {L : List TNd} (h : TrL L) {i : Nat} {x : TNd} (hx : L[i]? = some x) : i ∈ subI L i := sub_mem.2 ⟨(List.getElem?_eq_some_iff.1 hx).1, (bel_iff h hx hx).2 (chain_self h hx)⟩
theorem kid_node {L : List TNd} (h : TrL L) {i a : Nat} {x : TNd} (hx : L[i]? = some x) (ha : a ∈ kidsI L i) : ∃ y, L[a]? = some y ∧ y.parent = (i : Int) ∧ y.height = x.height + 1 := by
  obtain ⟨y, hy⟩ := node_at (kidsI_lt ha)
  have hp : y.parent = (i : Int) := by
    have := kidsI_par ha
    unfold parT at this
    rw [hy] at this
    exact this
  refine ⟨y, hy, hp, ?_⟩
  rcases h.parent hy with ⟨_, e, _⟩ | ⟨p, z, _, e, hz, eh⟩
  · omega
  · have e3 : p = i := by omega
    subst e3
    rw [hx] at hz
    rw [Option.some.inj hz]
    exact eh
theorem sub_split {L : List TNd} (h : TrL L) {i j : Nat} {x : TNd} (hx : L[i]? = some x) : j ∈ subI L i ↔ j = i ∨ ∃ a ∈ kidsI L i, j ∈ subI L a := by
  have h0 := (h.height hx).1
  constructor
  · intro hj
    obtain ⟨hl, hb⟩ := sub_mem.1 hj
    obtain ⟨y, hy⟩ := node_at hl
    have hc := (bel_iff h hx hy).1 hb
    have hlen := chain_length h hy
    by_cases hlt : x.height.toNat + 1 < (chainT L (j : Int)).length
    · right
      have ha := List.getElem?_eq_getElem hlt
      obtain ⟨a, z, e1, hz, e2⟩ := chain_ok h hy ha
      rw [e1] at ha
      obtain ⟨p, z', e3, hz', hp⟩ := chain_prev h hy ha hz
      rw [hc] at hp
      have e4 : (i : Int) = (p : Int) := Option.some.inj hp
      refine ⟨a, ?_, sub_mem.2 ⟨hl, (bel_iff h hz hy).2 ?_⟩⟩
      · unfold kidsI
        rw [List.mem_filter, List.mem_range]
        refine ⟨(List.getElem?_eq_some_iff.1 hz).1, decide_eq_true ?_⟩
        unfold parT
        rw [hz]
        show z.parent = _
        omega
      · rw [e2, Int.toNat_natCast]
        exact ha
    · left
      have hcl := (List.getElem?_eq_some_iff.1 hc).1
      have hs := chain_self h hy
      have e1 : y.height.toNat = x.height.toNat := by omega
      rw [e1, hc] at hs
      have := Option.some.inj hs
      omega
  · rintro (rfl | ⟨a, ha, hj⟩)
    · exact sub_self h hx
    · obtain ⟨hl, hb⟩ := sub_mem.1 hj
      obtain ⟨y, hy⟩ := node_at hl
      obtain ⟨z, hz, hp, hh⟩ := kid_node h hx ha
      have hc := (bel_iff h hz hy).1 hb
      rw [show z.height.toNat = x.height.toNat + 1 by omega] at hc
      obtain ⟨p, z', e3, hz', hq⟩ := chain_prev h hy hc hz
      refine sub_mem.2 ⟨hl, (bel_iff h hx hy).2 ?_⟩
      rw [hq, ← e3, hp]
theorem kidsI_nodup (L : List TNd) (i : Nat) : (kidsI L i).Nodup := List.nodup_range.filter _
theorem sub_step {L : List TNd} (h : TrL L) {i : Nat} {x : TNd} (hx : L[i]? = some x) : (subI L i).Perm (i :: (kidsI L i).flatMap (subI L)) := by
  refine (List.perm_ext_iff_of_nodup (sub_nodup L i) (List.nodup_cons.2 ⟨fun hm => ?_, ?_⟩)).2 fun j => ?_
  · obtain ⟨a, ha, hj⟩ := List.mem_flatMap.1 hm
    obtain ⟨z, hz, _, hh⟩ := kid_node h hx ha
    have hc := (bel_iff h hz hx).1 (sub_mem.1 hj).2
    have := (List.getElem?_eq_some_iff.1 hc).1
    have hl := chain_length h hx
    have := (h.height hx).1
    omega
  · refine List.pairwise_flatMap.2 ⟨fun a _ => sub_nodup L a, (kidsI_nodup L i).imp_of_mem fun {a b} ha hb hne j hj q hq e => hne ?_⟩
    subst e
    obtain ⟨y, hy⟩ := node_at (sub_mem.1 hj).1
    obtain ⟨z, hz, _, h1⟩ := kid_node h hx ha
    obtain ⟨u, hu, _, h2⟩ := kid_node h hx hb
    have c1 := (bel_iff h hz hy).1 (sub_mem.1 hj).2
    have c2 := (bel_iff h hu hy).1 (sub_mem.1 hq).2
    rw [h1, ← h2, c2] at c1
    have := Option.some.inj c1
    omega
  · rw [sub_split h hx, List.mem_cons, List.mem_flatMap]
/-- Those that a walk over the children has come by, and those that stand open. -/
structure UnI (L : List TNd) (k : Nat) (D O : List Nat) : Prop where
  all : (D ++ O.flatMap (subI L)).Perm (subI L k)
  lt : ∀ o ∈ O, o < L.length
theorem UnI.first (L : List TNd) {k : Nat} (hk : k < L.length) : UnI L k [] [k] := ⟨by simp, fun o ho => by rw [List.mem_singleton.1 ho]; exact hk⟩
theorem UnI.step {L : List TNd} (h : TrL L) {k o : Nat} {D O : List Nat} (hu : UnI L k D (O ++ [o])) : UnI L k (D ++ [o]) (O ++ kidsI L o) := by
  obtain ⟨x, hx⟩ := node_at (hu.lt o (by simp))
  refine ⟨List.Perm.trans ?_ hu.all, fun q hq => ?_⟩
  · rw [List.flatMap_append, List.flatMap_append, List.append_assoc]
    refine List.Perm.append_left D ?_
    rw [List.flatMap_singleton]
    refine List.Perm.trans ?_ (List.Perm.append_left _ (sub_step h hx).symm)
    exact (List.perm_middle (a := o) (l₁ := O.flatMap (subI L)) (l₂ := (kidsI L o).flatMap (subI L))).symm
  · rcases List.mem_append.1 hq with h1 | h1
    · exact hu.lt q (List.mem_append_left _ h1)
    · exact kidsI_lt h1
theorem flat_le {L : List TNd} (h : TrL L) : ∀ (O : List Nat), (∀ o ∈ O, o < L.length) → O.length ≤ (O.flatMap (subI L)).length
  | [], _ => by simp
  | o :: O, hl => by
    obtain ⟨x, hx⟩ := node_at (hl o List.mem_cons_self)
    have h1 := List.length_pos_of_mem (sub_self h hx)
    have h2 := flat_le h O fun q hq => hl q (List.mem_cons_of_mem _ hq)
    rw [List.flatMap_cons, List.length_append, List.length_cons]
    omega
theorem UnI.le {L : List TNd} (h : TrL L) {k : Nat} {D O : List Nat} (hu : UnI L k D O) : D.length + O.length ≤ (subI L k).length := by
  have h1 := hu.all.length_eq
  have h2 := flat_le h O hu.lt
  rw [List.length_append] at h1
  omega
theorem UnI.done {L : List TNd} {k : Nat} {D : List Nat} (hu : UnI L k D []) : D.Perm (subI L k) := by simpa using hu.all
def idsN (L : List TNd) (D : List Nat) : List (List UInt8) := D.map fun j => (L.getD j ndZ).id
end Go.Proofs.YtdhcjaflbfpalaaGreatDoor.Sha
