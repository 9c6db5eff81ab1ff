/-
  The way of package undo: a set, and what was done to it. A coin is spent, or added, on the way. The set, the way and new memory turn, no more. Conditions: the set and the way lie where the pointers say; places, coins as the model has them; the errors are there.
-/
import Derived.Test.YtibfamhhjnaeiaaDoorMg07
import Derived.Test.YtibfamhhjnaeiaaDoorMg08
namespace Go.Proofs.YtibfamhhjnaeiaaDoor.Sha
open Go Go.RowKit
/-- What was done: a coin, and whether it was spent. -/
def stepL (s : TSp × Bool) : List Value := spL s.1 ++ [.bool s.2]
theorem stepL_length {s : TSp × Bool} (h : SpOk s.1) : (stepL s).length = 69 := by simp [stepL, spL_length h]
theorem stepL_one (s : TSp × Bool) : ∀ u ∈ stepL s, u.oneCell' = true := fun u hu => by
  rcases List.mem_append.1 hu with h | h
  · exact spL_one _ u h
  · rw [List.mem_singleton.1 h]; rfl
theorem info_step : (Tryd.prog.info? 107).map (fun i => (i.zero, i.size, i.bytes)) = some (some (.agg (stepL (spZ, false)).toArray), 69, 104) := by kernel_rfl
theorem built_step (x : TSp) (b : Bool) (hx : SpOk x) : Tryd.prog.built 107 [(0, .agg (spL x).toArray), (1, .bool b)] = some (stepL (x, b)).toArray := by
  have hz : ∀ parts, Tryd.prog.built 107 parts = Instr.fill ([(0, 68), (68, 1)].toArray[·]?) (spL spZ ++ [Value.bool false]).toArray parts := fun parts => by kernel_rfl
  have l1 := spL_length hx
  have l2 : (spL spZ).length = 68 := rfl
  rw [hz, fill_part _ 0 0 (.agg (spL x).toArray) (spL x) _ _ rfl (by rw [l1]; rfl) (by rw [List.length_append]; simp; omega), List.take_zero, List.nil_append, l1, Nat.zero_add,
    fill_part _ 1 68 (.bool b) [Value.bool b] _ _ rfl rfl (by simp [l1, l2])]
  have e1 : (spL x ++ (spL spZ ++ [Value.bool false]).drop 68).take 68 = spL x := by rw [List.take_append_of_le_length (by omega), List.take_of_length_le (by omega)]
  have e2 : (spL x ++ (spL spZ ++ [Value.bool false]).drop 68).drop (68 + [Value.bool b].length) = [] := List.drop_eq_nil_of_le (by simp [l1, l2])
  rw [e1, e2, List.append_nil]
  rfl
theorem built_step0 (x : TSp) (hx : SpOk x) : Tryd.prog.built 107 [(0, .agg (spL x).toArray)] = some (stepL (x, false)).toArray := by
  have hz : ∀ parts, Tryd.prog.built 107 parts = Instr.fill ([(0, 68), (68, 1)].toArray[·]?) (spL spZ ++ [Value.bool false]).toArray parts := fun parts => by kernel_rfl
  have l1 := spL_length hx
  have l2 : (spL spZ).length = 68 := rfl
  rw [hz, fill_part _ 0 0 (.agg (spL x).toArray) (spL x) _ _ rfl (by rw [l1]; rfl) (by rw [List.length_append]; simp; omega), List.take_zero, List.nil_append, l1, Nat.zero_add]
  have e1 : (spL spZ ++ [Value.bool false]).drop 68 = [Value.bool false] := by rw [List.drop_append_of_le_length (by omega), List.drop_eq_nil_of_le (by omega)]; rfl
  rw [e1]
  rfl
theorem own_ne {w : World} {base n k g : Nat} {T T' : TypeId} {v : Value} {xs : List Value} {cs : Array Value} {fr : Nat × Nat} (h : w.ownsRow base T k v n xs) (hg : w.heap[g]? = some (.cells cs T' fr)) (hT : T ≠ T') : v.ownBlock ≠ some g := by
  rcases h.2 with ⟨rfl, _⟩ | ⟨b, cap, cur, rfl, _, hc, _⟩
  · exact fun e => by cases e
  · intro e
    have e' : b = g := Option.some.inj e
    rw [e', hg] at hc
    exact hT (Obj.cells.inj (Option.some.inj hc)).2.1.symm
theorem SetAt.own_ne {w : World} {a : Nat} {m : Option Nat} {l : List TSp} {base n k : Nat} {T : TypeId} {v : Value} {xs : List Value} (hs : SetAt w a m l) (h : w.ownsRow base T k v n xs) (hT : T ≠ 47) : ∀ q, v.ownBlock = some q → q ≠ a ∧ m ≠ some q := by
  intro q hq
  rcases h.2 with ⟨rfl, _⟩ | ⟨b, cap, cur, rfl, _, hc, _⟩
  · cases hq
  · have e' : b = q := Option.some.inj hq
    rw [← e']
    exact ⟨hs.boxne hT hc, hs.rowne hc⟩
/-- The way, since a world w0: its box, what was done (the box's row, vb, and the newest one, v), the set. -/
structure WyG (w0 : World) (a : Nat) (m0 : Option Nat) (gw : Nat) (w : World) (m : Option Nat) (l : List TSp) (vb v : Value) (st : List (TSp × Bool)) : Prop where
  box : w.heap[gw]? = some (.cells #[.pointer (some ⟨a, 0, none⟩), vb] 76 (0, 0))
  row : RwOwn 69 107 w0.heap.size w v (st.map stepL)
  set : SetAt w a m l
  gw : w0.heap.size ≤ gw
  hm : m = m0 ∨ ∃ b, m = some b ∧ w0.heap.size ≤ b
  kps : Kps (fun j => j ≠ a ∧ m0 ≠ some j) w0 w
section
variable {w0 w w' : World} {a gw : Nat} {m0 m m' : Option Nat} {l l' : List TSp} {vb v v' : Value} {st : List (TSp × Bool)}
theorem WyG.below (h : WyG w0 a m0 gw w m l vb v st) (hb : Below w.heap.size w w') : WyG w0 a m0 gw w' m l vb v st := ⟨row_below h.box hb, h.row.keep hb, h.set.below hb, h.gw, h.hm, h.kps.trans (Kps.new hb)⟩
theorem WyG.ptr (h : WyG w0 a m0 gw w m l vb v st) : w.cell? ⟨gw, 0, none⟩ = some (.pointer (some ⟨a, 0, none⟩)) := by rw [cell_of_row _ _ _ _ _ _ h.box]; rfl
theorem WyG.steps (h : WyG w0 a m0 gw w m l vb v st) : w.cell? ⟨gw, 1, none⟩ = some vb := by rw [cell_of_row _ _ _ _ _ _ h.box]; rfl
/-- A row of another kind is no part of it. -/
theorem WyG.apart (h : WyG w0 a m0 gw w m l vb v st) {g : Nat} {cs : Array Value} {T : TypeId} {fr : Nat × Nat} (hg : w.heap[g]? = some (.cells cs T fr)) (h1 : T ≠ 47) : g ≠ a ∧ m ≠ some g := ⟨h.set.boxne h1 hg, h.set.rowne hg⟩
theorem WyG.turn (h : WyG w0 a m0 gw w m l vb v st) (hk : Kps (fun j => j ≠ a ∧ m ≠ some j) w w') (hs : SetAt w' a m' l') (hm : m' = m ∨ ∃ q, m' = some q ∧ w.heap.size ≤ q) : WyG w0 a m0 gw w' m' l' vb v st := by
  have h0 := h.kps.size
  refine ⟨row_kps h.box hk (h.apart h.box (by decide)), ⟨⟨h.row.1.1, ?_⟩, h.row.2⟩, hs, h.gw, ?_, ⟨hk.os.trans h.kps.os, hk.tape.trans h.kps.tape, hk.output.trans h.kps.output, Nat.le_trans h0 hk.size, fun k hlt hf => (hk.block k (Nat.lt_of_lt_of_le hlt h0) ⟨hf.1, fun e => ?_⟩).trans (h.kps.block k hlt hf)⟩⟩
  · rcases h.row.1.2 with hn | ⟨g, cap, cur, rfl, hb, hg, rest⟩
    · exact .inl hn
    · exact .inr ⟨g, cap, cur, rfl, hb, row_kps hg hk (h.apart hg (by decide)), rest⟩
  · rcases hm with rfl | ⟨q, rfl, hq⟩
    · exact h.hm
    · exact .inr ⟨q, rfl, by omega⟩
  · rcases h.hm with e2 | ⟨b, e2, hb⟩
    · exact hf.2 (by rw [← e2]; exact e)
    · rw [e2] at e
      have := Option.some.inj e
      omega
theorem WyG.push (h : WyG w0 a m0 gw w m l vb v st) {x : TSp × Bool} (hx : SpOk x.1) (ho : w'.ownsRow w0.heap.size 107 69 v' ((st.map stepL).length + 1) ((st.map stepL).flatten ++ stepL x)) (hg : w.grownBy w' v.ownBlock) : WyG w0 a m0 gw w' m l vb v' (st ++ [x]) := by
  have h0 := h.kps.size
  have hr := RwOwn.push h.row.2 (stepL_length hx) ho
  have hne := own_ne h.row.1 h.box (by decide)
  have hs := h.set.own_ne h.row.1 (by decide)
  have hk : Kps (fun j => some j ≠ v.ownBlock) w w' := Kps.grown hg fun k _ hk => hk
  refine ⟨row_kps h.box hk (fun e => hne e.symm), by rw [List.map_append]; exact hr, h.set.kps hk (fun e => (hs a e.symm).1 rfl) (fun b hb e => (hs b e.symm).2 hb), h.gw, h.hm, ⟨hk.os.trans h.kps.os, hk.tape.trans h.kps.tape, hk.output.trans h.kps.output, Nat.le_trans h0 hk.size, fun k hlt hf => (hk.block k (Nat.lt_of_lt_of_le hlt h0) (fun e => ?_)).trans (h.kps.block k hlt hf)⟩⟩
  have := (h.row.1.lt k e.symm).1
  omega
theorem WyG.store (h : WyG w0 a m0 gw w m l vb v st) (hb : w'.heap[gw]? = some (.cells #[.pointer (some ⟨a, 0, none⟩), v] 76 (0, 0))) (hg : w.grownBy w' (some gw)) : WyG w0 a m0 gw w' m l v v st := by
  have h0 := h.kps.size
  have hne := own_ne h.row.1 h.box (by decide)
  have hk : Kps (fun j => j ≠ gw) w w' := Kps.grown hg fun k _ hk e => hk (Option.some.inj e)
  obtain ⟨n1, n2⟩ := h.apart h.box (by decide)
  refine ⟨hb, ⟨⟨h.row.1.1, ?_⟩, h.row.2⟩, h.set.kps hk (fun e => n1 e.symm) (fun b hb e => n2 (by rw [hb, e])), h.gw, h.hm, ⟨hk.os.trans h.kps.os, hk.tape.trans h.kps.tape, hk.output.trans h.kps.output, Nat.le_trans h0 hk.size, fun k hlt hf => (hk.block k (Nat.lt_of_lt_of_le hlt h0) (fun e => ?_)).trans (h.kps.block k hlt hf)⟩⟩
  · rcases h.row.1.2 with hn | ⟨g, cap, cur, rfl, hb, hg, rest⟩
    · exact .inl hn
    · exact .inr ⟨g, cap, cur, rfl, hb, row_kps hg hk (fun e => hne (by rw [← e]; rfl)), rest⟩
  · have := h.gw
    omega
/-- A row of another kind stands. -/
theorem WyG.far1 (h : WyG w0 a m0 gw w m l vb v st) {g : Nat} {cs : Array Value} {T : TypeId} {fr : Nat × Nat} (hg : w.heap[g]? = some (.cells cs T fr)) (hq : w.grownBy w' v.ownBlock) (hT : 107 ≠ T) : w'.heap[g]? = some (.cells cs T fr) := row_far hg hq (own_ne h.row.1 hg hT)
theorem WyG.far2 (h : WyG w0 a m0 gw w m l vb v st) {g : Nat} {cs : Array Value} {T : TypeId} {fr : Nat × Nat} (hg : w.heap[g]? = some (.cells cs T fr)) (hq : w.grownBy w' (some gw)) (hT : 76 ≠ T) : w'.heap[g]? = some (.cells cs T fr) := row_far hg hq (fun e => by
  have e' : gw = g := Option.some.inj e
  have h1 := h.box
  rw [e', hg] at h1
  exact hT (Obj.cells.inj (Option.some.inj h1)).2.1.symm)
theorem WyG.far3 (h : WyG w0 a m0 gw w m l vb v st) {g : Nat} {cs : Array Value} {T : TypeId} {fr : Nat × Nat} (hg : w.heap[g]? = some (.cells cs T fr)) (hk : Kps (fun j => j ≠ a ∧ m ≠ some j) w w') (hT : T ≠ 47) : w'.heap[g]? = some (.cells cs T fr) := row_kps hg hk (h.apart hg hT)
end
/-- A box of another kind, made since, turns. -/
theorem WyG.other {w0 w w' : World} {a gw : Nat} {m0 m : Option Nat} {l : List TSp} {vb v : Value} {st : List (TSp × Bool)} (h : WyG w0 a m0 gw w m l vb v st) {g : Nat} {cs : Array Value} {T : TypeId} {fr : Nat × Nat} (hg : w.heap[g]? = some (.cells cs T fr)) (hq : w.grownBy w' (some g)) (h1 : T ≠ 47) (h2 : 107 ≠ T) (h3 : 76 ≠ T) (hge : w0.heap.size ≤ g) : WyG w0 a m0 gw w' m l vb v st := by
  have h0 := h.kps.size
  have hk : Kps (fun j => j ≠ g) w w' := Kps.grown hq fun k _ hk e => hk (Option.some.inj e)
  obtain ⟨n1, n2⟩ := h.apart hg h1
  have n3 : gw ≠ g := fun e => by
    have hb := h.box
    rw [e, hg] at hb
    exact h3 (Obj.cells.inj (Option.some.inj hb)).2.1.symm
  refine ⟨row_kps h.box hk n3, ⟨⟨h.row.1.1, ?_⟩, h.row.2⟩, h.set.kps hk (fun e => n1 e.symm) (fun b hb e => n2 (by rw [hb, e])), h.gw, h.hm, ⟨hk.os.trans h.kps.os, hk.tape.trans h.kps.tape, hk.output.trans h.kps.output, Nat.le_trans h0 hk.size, fun k hlt hf => (hk.block k (Nat.lt_of_lt_of_le hlt h0) (fun e => ?_)).trans (h.kps.block k hlt hf)⟩⟩
  · rcases h.row.1.2 with hn | ⟨b, cap, cur, rfl, hb, hc, rest⟩
    · exact .inl hn
    · exact .inr ⟨b, cap, cur, rfl, hb, row_kps hc hk (fun e => own_ne h.row.1 hg h2 (by rw [← e]; rfl)), rest⟩
  · omega
theorem WyG.stay {w0 w w' : World} {a gw : Nat} {m0 m : Option Nat} {l : List TSp} {vb v : Value} {st : List (TSp × Bool)} (h : WyG w0 a m0 gw w m l vb v st) (hk : Kps (fun j => j ≠ a ∧ m ≠ some j ∧ j ≠ gw ∧ v.ownBlock ≠ some j) w w') {g : Nat} {cs : Array Value} {T : TypeId} {fr : Nat × Nat} (hg : w.heap[g]? = some (.cells cs T fr)) (h1 : T ≠ 47) (h2 : 107 ≠ T) (h3 : 76 ≠ T) : w'.heap[g]? = some (.cells cs T fr) := by
  obtain ⟨n1, n2⟩ := h.apart hg h1
  refine row_kps hg hk ⟨n1, n2, fun e => ?_, own_ne h.row.1 hg h2⟩
  have hb := h.box
  rw [← e, hg] at hb
  exact h3 (Obj.cells.inj (Option.some.inj hb)).2.1.symm
theorem WyG.stayRow {w0 w w' : World} {a gw base k : Nat} {T : TypeId} {u : Value} {L : List (List Value)} {m0 m : Option Nat} {l : List TSp} {vb v : Value} {st : List (TSp × Bool)} (h : WyG w0 a m0 gw w m l vb v st) (hk : Kps (fun j => j ≠ a ∧ m ≠ some j ∧ j ≠ gw ∧ v.ownBlock ≠ some j) w w') (hr : RwOwn k T base w u L) (h1 : T ≠ 47) (h2 : 107 ≠ T) (h3 : 76 ≠ T) : RwOwn k T base w' u L := by
  refine ⟨⟨hr.1.1, ?_⟩, hr.2⟩
  rcases hr.1.2 with hn | ⟨b, cap, cur, rfl, hb, hc, rest⟩
  · exact .inl hn
  · exact .inr ⟨b, cap, cur, rfl, hb, h.stay hk hc h1 h2 h3, rest⟩
/-- What the way's calls leave. -/
def FF (a : Nat) (m : Option Nat) (gw : Nat) (v : Value) (j : Nat) : Prop := j ≠ a ∧ m ≠ some j ∧ j ≠ gw ∧ v.ownBlock ≠ some j
def WyS (E : Nat → Addr) (w0 : World) (a : Nat) (m0 : Option Nat) (gw : Nat) (w : World) (m : Option Nat) (l : List TSp) (vb : Value) (p : TPt) (st : List (TSp × Bool)) (e : Ending) (w' : World) : Prop :=
  e = .returned (.tuple #[.agg (mnL ((getC l p).getD mnZ)).toArray, errV E (if (getC l p).isSome then 0 else 13)]) ∧ Kps (FF a m gw vb) w w' ∧ ∃ v', WyG w0 a m0 gw w' m (delC l p) v' v' (if (getC l p).isSome then st ++ [(⟨p, (getC l p).getD mnZ⟩, true)] else st)
def WyA (E : Nat → Addr) (w0 : World) (a : Nat) (m0 : Option Nat) (gw : Nat) (w : World) (m : Option Nat) (l : List TSp) (vb : Value) (p : TPt) (c : TMn) (st : List (TSp × Bool)) (e : Ending) (w' : World) : Prop :=
  e = .returned (errV E (addR l p c)) ∧ Kps (FF a m gw vb) w w' ∧ ∃ m' v', WyG w0 a m0 gw w' m' (addL l p c) v' v' (if addR l p c = 0 then st ++ [(⟨p, c⟩, false)] else st)
theorem EC.kps {w w' : World} {E : Nat → Addr} {F : Nat → Prop} (h : EC w E) (hk : Kps F w w') (h1 : F 3) (h2 : F 4) (h3 : F 5) : EC w' E := by
  refine ⟨?_, ?_, ?_⟩
  · rw [World.cell?_of_block (hk.block _ (World.block_lt_of_cell? _ _ h.value) h1)]; exact h.value
  · rw [World.cell?_of_block (hk.block _ (World.block_lt_of_cell? _ _ h.twice) h2)]; exact h.twice
  · rw [World.cell?_of_block (hk.block _ (World.block_lt_of_cell? _ _ h.missing) h3)]; exact h.missing
/-- The errors stand whatever is done to the set. -/
def ECw (E : Nat → Addr) (w0 : World) (a : Nat) (m0 : Option Nat) : Prop := ∀ w, Kps (fun j => j ≠ a ∧ m0 ≠ some j) w0 w → EC w E
set_option maxHeartbeats 2000000 in
set_option maxRecDepth 100000 in
theorem wyspend_any (E : Nat → Addr) (w0 w : World) (a gw : Nat) (m0 m : Option Nat) (l : List TSp) (vb : Value) (st : List (TSp × Bool)) (p : TPt) (hE : ECw E w0 a m0) (hs : WyG w0 a m0 gw w m l vb vb st) (hp : PtOk p) (hn : st.length ≤ 1048576) :
    Calls Tryd.prog 45 #[(.pointer (some ⟨gw, 0, none⟩)), .agg (ptC p).toArray] w (WyS E w0 a m0 gw w m l vb p st) := by
  obtain ⟨i1, hi1, hy0, hy1, hy2⟩ := info_parts info_step
  have ST := Lib.hid hs
  have HE := Lib.hid hE
  have HP := Lib.hid hp
  have PSZ : Hid ((ptC p).toArray.size = 33) := ptC_size hp
  have CS : Hid (∀ W, SetAt W a m l → EC W E → Calls Tryd.prog 50 #[(.pointer (some ⟨a, 0, none⟩)), .agg (ptC p).toArray] W fun e w' => e = .returned (.tuple #[.agg (mnL ((getC l p).getD mnZ)).toArray, errV E (if (getC l p).isSome then 0 else 13)]) ∧ SetAt w' a m (delC l p) ∧ Kps (fun k => m ≠ some k) W w') := fun W h1 h2 => setspend_any E W a m l p h2 h1 hp
  have COK : Hid (MnOk ((getC l p).getD mnZ)) := getD_ok hs.set.map.ok p
  have DL : Hid ((st.map stepL).length ≤ 1048576) := by show _ ≤ _; rw [List.length_map]; exact hn
  unfold WyS
  obtain ⟨c, hc⟩ : ∃ c, c = (getC l p).getD mnZ := ⟨_, rfl⟩
  obtain ⟨q, hq⟩ : ∃ q, q = (getC l p).isSome := ⟨_, rfl⟩
  rw [← hc] at COK
  rw [← hc, ← hq] at CS
  rw [← hc, ← hq]
  have CLN : Hid ((mnL c).length = 35) := mnL_length COK.out
  have CSZ : Hid ((mnL c).toArray.size = 35) := mnL_size COK.out
  have CALL : Hid ((mnL c).toArray.all (·.oneCell') = true) := mnL_all c
  obtain ⟨cm, hcm⟩ : ∃ cm, cm = mnL c := ⟨_, rfl⟩
  obtain ⟨cp, hcp⟩ : ∃ cp, cp = ptC p := ⟨_, rfl⟩
  obtain ⟨rc, hrc⟩ : ∃ rc, rc = if q then 0 else 13 := ⟨_, rfl⟩
  rw [← hcm, ← hcp, ← hrc] at CS
  rw [← hcm] at CLN CSZ CALL
  rw [← hcp] at PSZ
  rw [← hcm, ← hcp, ← hrc]
  have CME := Lib.hid hcm
  have CPE := Lib.hid hcp
  have RC := Lib.hid hrc
  clear hs hE hp hn hc hq hcm hcp hrc
  go_enter Tryd.func45, Tryd.ntmps45
  go_upto_region 1 with fail
  have f3 := row_below (heap_alloc_new w (.cells cp.toArray 28 (0, 0))) ((Below.refl _ _).alloc (Nat.le_refl _) (.cells (mnL mnZ).toArray 31 (0, 0)))
  have f4 := heap_alloc_new (w.alloc (.cells cp.toArray 28 (0, 0))) (.cells (mnL mnZ).toArray 31 (0, 0))
  have b0 := ((Below.refl w.heap.size w).alloc (Nat.le_refl _) (.cells cp.toArray 28 (0, 0))).alloc (by simp) (.cells (mnL mnZ).toArray 31 (0, 0))
  rw [World.size_alloc] at f4
  generalize hw1 : World.alloc _ _ = w1
  have e1 : (w.alloc (.cells cp.toArray 28 (0, 0))).alloc (.cells (mnL mnZ).toArray 31 (0, 0)) = w1 := hw1
  rw [e1] at f3 f4 b0
  obtain ⟨g3, hg3⟩ : ∃ g3, g3 = w.heap.size := ⟨_, rfl⟩
  obtain ⟨g4, hg4⟩ : ∃ g4, g4 = w.heap.size + 1 := ⟨_, rfl⟩
  rw [← hg3] at f3
  rw [← hg4] at f4
  have F3 := Lib.hid f3
  have F4 := Lib.hid f4
  have W01 : Hid (w0.heap.size ≤ w1.heap.size) := Nat.le_trans ST.out.kps.size b0.size
  have KF : Hid (Kps (FF a m gw vb) w w1) := Kps.new b0
  have W1 : Hid (w.heap.size ≤ w1.heap.size) := b0.size
  have NW4 : Hid (w.heap.size ≤ g4) := by show _ ≤ _; omega
  have N4 : Hid (w0.heap.size ≤ g4) := by show _ ≤ _; have := ST.out.kps.size; omega
  have L3 : Hid (g3 < w1.heap.size) := (Array.getElem?_eq_some_iff.1 f3).1
  have L4 : Hid (g4 < w1.heap.size) := (Array.getElem?_eq_some_iff.1 f4).1
  have ST := Lib.hid (ST.out.below b0)
  rw [← hg4, ← hg3]
  clear f3 f4 b0 hw1 e1 hg3 hg4
  refine wp_region_held_drew (S := (fun w' => w1.heap.size ≤ w'.heap.size ∧ w'.cell? ⟨gw, 0, none⟩ = some (.pointer (some ⟨a, 0, none⟩)) ∧ w'.heap[g3]? = some (.cells cp.toArray 28 (0, 0)))) (by kernel_rfl) (⟨(Below.drew (Below.refl w1.heap.size w1)).size, (ST.out.below (Below.drew (Below.refl _ _))).ptr, row_below F3.out (Below.drew (Below.refl _ _))⟩) (fun hHeld => ?_)
  have ST := Lib.hid (ST.out.below (Below.drew (Below.refl _ _)))
  have F4 := Lib.hid (row_below F4.out (Below.drew (Below.refl _ _)))
  have KF := Lib.hid (KF.out.trans (Kps.new (Below.drew (Below.refl _ _))))
  generalize hwd : w1.drew = wd at ST F4 KF hHeld ⊢
  clear hwd
  refine held_take (i := 0) (v := (.pointer (some ⟨gw, 0, none⟩))) rfl (by kernel_rfl) (by kernel_rfl) (by kernel_rfl) (fun _ _ _ h => h) (Or.inl ⟨by rfl, fun w' _ => by kernel_rfl⟩) hHeld ?_
  go_frame
  refine held_take (i := 1) (v := (.pointer (some ⟨gw, 0, none⟩))) rfl (by kernel_rfl) (by kernel_rfl) (by kernel_rfl) (fun _ _ _ h => h) (Or.inl ⟨by rfl, fun w' _ => by kernel_rfl⟩) hHeld ?_
  go_frame
  refine held_take (i := 2) (v := (.pointer (some ⟨gw, 0, none⟩))) rfl (by kernel_rfl) (by kernel_rfl) (by kernel_rfl) (fun _ _ _ h => h) (Or.inl ⟨by rfl, fun w' _ => by kernel_rfl⟩) hHeld ?_
  go_frame
  refine held_take (i := 3) (v := (.pointer (some ⟨a, 0, none⟩))) rfl (by kernel_rfl) (by kernel_rfl) (by kernel_rfl) (fun _ _ _ h => h) (yieldsIf_load_one (by rfl) 49 (.tmp 11) rfl gw (0) rfl _ _ (fun w' hw' => hw'.2.1) Tryd.underlying49 rfl) hHeld ?_
  go_frame
  refine held_take (i := 4) (v := (.agg cp.toArray)) rfl (by kernel_rfl) (by kernel_rfl) (by kernel_rfl) (fun _ _ _ h => h) (yieldsIf_load_row (by rfl) 28 (.tmp 3) rfl g3 rfl 28 cp.toArray (0, 0) _ (fun w' hw' => hw'.2.2) Tryd.underlying28 rfl (by rw [PSZ.out]; kernel_rfl)) hHeld ?_
  go_frame
  refine wpAnyH_ready (rs := [5, 9]) (by kernel_rfl) (by simp) (held_cons rfl (fun K hK => ?_) (held_cons rfl (fun K hK => ?_) AllReadyH.nil))
  · skip
    go_simp
    refine (CS.out wd ST.out.set (HE.out _ ST.out.kps)).mono ?_
    rintro e v1 ⟨rfl, s2, k2⟩
    have k3 := k2.mono (G := fun j => j ≠ a ∧ m ≠ some j) (fun j _ hj => hj.2)
    have hv1 : w1.heap.size ≤ v1.heap.size ∧ v1.cell? ⟨gw, 0, none⟩ = some (.pointer (some ⟨a, 0, none⟩)) ∧ v1.heap[g3]? = some (.cells cp.toArray 28 (0, 0)) := ⟨Nat.le_trans hHeld.1 k3.size, (ST.out.turn k3 s2 (.inl rfl)).ptr, ST.out.far3 hHeld.2.2 k3 (by decide)⟩
    have F4 := Lib.hid (ST.out.far3 F4.out k3 (by decide))
    have KF := Lib.hid (KF.out.trans (k3.mono fun j _ hj => ⟨hj.1, hj.2.1⟩))
    have ST := Lib.hid (ST.out.turn k3 s2 (.inl rfl))
    clear s2 k2 k3 hHeld
    go_wp2_with fail
    refine hK.out _ _ hv1 (fun hHeld => ?_)
    clear hK K hv1
    refine held_take (i := 6) (v := (.tuple #[.agg cm.toArray, errV E rc])) rfl (by kernel_rfl) (by kernel_rfl) (by kernel_rfl) (fun _ _ _ h => h) (Or.inl ⟨by rfl, fun w' _ => by kernel_rfl⟩) hHeld ?_
    go_frame
    refine held_take (i := 7) (v := (.agg cm.toArray)) rfl (by kernel_rfl) (by kernel_rfl) (by kernel_rfl) (fun _ _ _ h => h) (Or.inl ⟨by rfl, fun w' _ => by kernel_rfl⟩) hHeld ?_
    go_frame
    refine held_take (i := 8) (v := (errV E rc)) rfl (by kernel_rfl) (by kernel_rfl) (by kernel_rfl) (fun _ _ _ h => h) (Or.inl ⟨by rfl, fun w' _ => by kernel_rfl⟩) hHeld ?_
    go_frame
    refine wpAnyH_ready (rs := [9]) (by kernel_rfl) (by simp) (held_cons rfl (fun K hK => ?_) AllReadyH.nil)
    go_simp
    have nf := heap_alloc_new v1 (.cells (mnL mnZ).toArray 31 (0, 0))
    have bb := (Below.refl v1.heap.size v1).alloc (Nat.le_refl _) (.cells (mnL mnZ).toArray 31 (0, 0))
    obtain ⟨gv2, hgv2⟩ : ∃ g, g = v1.heap.size := ⟨_, rfl⟩
    have GF6 : Hid (w1.heap.size ≤ gv2) := by show _ ≤ _; rw [hgv2]; exact hHeld.1
    generalize hqv2 : World.alloc _ _ = v2
    have ev2 : v1.alloc (.cells (mnL mnZ).toArray 31 (0, 0)) = v2 := hqv2
    rw [ev2] at nf bb
    rw [← hgv2] at nf ⊢
    have F6 := Lib.hid nf
    have ST := Lib.hid (ST.out.below bb)
    have F4 := Lib.hid (row_below F4.out bb)
    have KF := Lib.hid (KF.out.trans (Kps.new bb))
    have hv2 := (show _ ∧ _ ∧ _ from ⟨Nat.le_trans hHeld.1 bb.size, cell_below hHeld.2.1 bb, row_below hHeld.2.2 bb⟩)
    clear nf bb hqv2 ev2 hgv2 hHeld
    refine hK.out _ _ hv2 (fun hHeld => ?_)
    clear hK K hv2
    refine wpAnyH_ready (rs := [10]) (by kernel_rfl) (by simp) (held_cons rfl (fun K hK => ?_) AllReadyH.nil)
    rw [if_pos (by rfl)]
    refine wp_store_whole 31 (.tmp 6) (.tmp 15) rfl gv2 (mnL mnZ) cm 31 rfl rfl (by rw [mnL_length mnZ_ok, CLN.out]) F6.out (by rw [CLN.out]; kernel_rfl) CALL.out ?_
    intro v3 q1 q2
    have kk : Kps (fun j => j < w1.heap.size) v2 v3 := Kps.grown q2 fun k _ hk e => by have h1 := Option.some.inj e; have h2 := GF6.out; omega
    have hv3 : w1.heap.size ≤ v3.heap.size ∧ v3.cell? ⟨gw, 0, none⟩ = some (.pointer (some ⟨a, 0, none⟩)) ∧ v3.heap[g3]? = some (.cells cp.toArray 28 (0, 0)) := ⟨Nat.le_trans hHeld.1 kk.size, (ST.out.other F6.out q2 (by decide) (by decide) (by decide) (Nat.le_trans W01.out GF6.out)).ptr, row_kps hHeld.2.2 kk L3.out⟩
    have F4 := Lib.hid (row_kps F4.out kk L4.out)
    have KF := Lib.hid (Kps.far KF.out q2 (Nat.le_trans W1.out GF6.out))
    have ST := Lib.hid (ST.out.other F6.out q2 (by decide) (by decide) (by decide) (Nat.le_trans W01.out GF6.out))
    have F6 := Lib.hid q1
    clear q1 q2 kk hHeld
    go_frame
    refine hK.out _ _ hv3 (fun hHeld => ?_)
    clear hK K hv3
    refine held_take (i := 11) (v := (errV E rc)) rfl (by kernel_rfl) (by kernel_rfl) (by kernel_rfl) (fun _ _ _ h => h) (Or.inl ⟨by rfl, fun w' _ => by kernel_rfl⟩) hHeld ?_
    go_frame
    refine wpAnyH_done (by kernel_rfl) ?_ _
    have F3 := Lib.hid hHeld.2.2
    clear hHeld
    obtain ⟨wy, hwy⟩ : ∃ wy, wy = v3 := ⟨_, rfl⟩
    obtain ⟨gc, hgc⟩ : ∃ gc, gc = gv2 := ⟨_, rfl⟩
    rw [← hgc] at F6
    rw [← hwy] at F3 F4 F6 ST KF ⊢
    rw [← hgc]
    clear hwy hgc
    cases q with
    | true =>
      obtain rfl : rc = 0 := RC.out
      rw [show errV E 0 = .nilIface from rfl]
      have SOK : Hid (SpOk ⟨p, c⟩) := ⟨HP.out, COK.out⟩
      obtain ⟨sp, hsp⟩ : ∃ sp, sp = spL ⟨p, c⟩ := ⟨_, rfl⟩
      obtain ⟨sx, hsx⟩ : ∃ sx, sx = stepL (⟨p, c⟩, true) := ⟨_, rfl⟩
      have SXE := Lib.hid hsx
      have SXL : Hid (sx.length = 69) := by show _ = _; rw [hsx]; exact stepL_length SOK.out
      have SXO : Hid (∀ u ∈ sx, u.oneCell' = true) := by rw [hsx]; exact stepL_one _
      have SPB : Hid (Tryd.prog.built 33 [(0, .agg cp.toArray), (1, .agg cm.toArray)] = some sp.toArray) := by
        show _ = _
        rw [CPE.out, CME.out, hsp]
        exact built_sp _ SOK.out
      have STB : Hid (Tryd.prog.built 107 [(0, .agg sp.toArray), (1, .bool true)] = some sx.toArray) := by
        show _ = _
        rw [hsp, hsx]
        exact built_step _ true SOK.out
      clear hsp hsx
      go_upto_region 3 with fail
      refine wp_region_held_drew (S := (fun w' => w'.heap[g3]? = some (.cells cp.toArray 28 (0, 0)) ∧ w'.heap[gc]? = some (.cells cm.toArray 31 (0, 0)))) (by kernel_rfl) (⟨row_below F3.out (Below.drew (Below.refl _ _)), row_below F6.out (Below.drew (Below.refl _ _))⟩) (fun hHeld => ?_)
      have ST := Lib.hid (ST.out.below (Below.drew (Below.refl _ _)))
      have F4 := Lib.hid (row_below F4.out (Below.drew (Below.refl _ _)))
      have KF := Lib.hid (KF.out.trans (Kps.new (Below.drew (Below.refl _ _))))
      generalize hwd : wy.drew = wd at ST F4 KF hHeld ⊢
      clear hwd
      refine held_take (i := 0) (v := (.pointer (some ⟨gw, 0, none⟩))) rfl (by kernel_rfl) (by kernel_rfl) (by kernel_rfl) (fun _ _ _ h => h) (Or.inl ⟨by rfl, fun w' _ => by kernel_rfl⟩) hHeld ?_
      go_frame
      refine held_take (i := 1) (v := (.pointer (some ⟨gw, 0, none⟩))) rfl (by kernel_rfl) (by kernel_rfl) (by kernel_rfl) (fun _ _ _ h => h) (Or.inl ⟨by rfl, fun w' _ => by kernel_rfl⟩) hHeld ?_
      go_frame
      refine held_take (i := 2) (v := (.pointer (some ⟨gw, 0, none⟩))) rfl (by kernel_rfl) (by kernel_rfl) (by kernel_rfl) (fun _ _ _ h => h) (Or.inl ⟨by rfl, fun w' _ => by kernel_rfl⟩) hHeld ?_
      go_frame
      refine held_take (i := 3) (v := (.pointer (some ⟨gw, 1, none⟩))) rfl (by kernel_rfl) (by kernel_rfl) (by kernel_rfl) (fun _ _ _ h => h) (Or.inl ⟨by rfl, fun w' _ => by kernel_rfl⟩) hHeld ?_
      go_frame
      refine held_take (i := 5) (v := (.agg cp.toArray)) rfl (by kernel_rfl) (by kernel_rfl) (by kernel_rfl) (fun _ _ _ h => h) (yieldsIf_load_row (by rfl) 28 (.tmp 3) rfl g3 rfl 28 cp.toArray (0, 0) _ (fun w' hw' => hw'.1) Tryd.underlying28 rfl (by rw [PSZ.out]; kernel_rfl)) hHeld ?_
      go_frame
      refine held_take (i := 6) (v := (.agg cm.toArray)) rfl (by kernel_rfl) (by kernel_rfl) (by kernel_rfl) (fun _ _ _ h => h) (yieldsIf_load_row (by rfl) 31 (.tmp 6) rfl gc rfl 31 cm.toArray (0, 0) _ (fun w' hw' => hw'.2) Tryd.underlying31 rfl (by rw [CSZ.out]; kernel_rfl)) hHeld ?_
      go_frame
      refine held_take (i := 7) (v := (.agg sp.toArray)) rfl (by kernel_rfl) (by kernel_rfl) (by kernel_rfl) (fun _ _ _ h => h) (yieldsIf_build (by rfl) 33 _ rfl [(0, .agg cp.toArray), (1, .agg cm.toArray)] (by kernel_rfl) _ SPB.out) hHeld ?_
      go_frame
      refine held_take (i := 8) (v := (.agg sx.toArray)) rfl (by kernel_rfl) (by kernel_rfl) (by kernel_rfl) (fun _ _ _ h => h) (yieldsIf_build (by rfl) 107 _ rfl [(0, .agg sp.toArray), (1, .bool true)] (by kernel_rfl) _ STB.out) hHeld ?_
      go_frame
      refine wpAnyH_ready (rs := [4, 9]) (by kernel_rfl) (by simp) (held_cons rfl (fun K hK => ?_) (held_cons rfl (fun K hK => ?_) AllReadyH.nil))
      · skip
        rw [if_pos (by rfl)]
        refine wp_load_cell 74 (.tmp 22) rfl gw 1 rfl vb _ ST.out.steps Tryd.underlying74 rfl ?_
        go_frame
        refine hK.out _ _ hHeld (fun hHeld => ?_)
        clear hK K
        refine wpAnyH_ready (rs := [9]) (by kernel_rfl) (by simp) (held_cons rfl (fun K hK => ?_) AllReadyH.nil)
        rw [if_pos (by rfl)]
        refine wp_slice_one 74 107 (.tmp 27) rfl sx rfl Tryd.underlying74 i1 _ hi1 hy0 (by rw [hy1, SXL.out]) (by rw [SXL.out]; omega) (by rw [SXL.out]; omega) ?_
        have nf := heap_alloc_new wd (.cells sx.toArray 107 (0, 0))
        have bb := (Below.refl wd.heap.size wd).alloc (Nat.le_refl _) (.cells sx.toArray 107 (0, 0))
        obtain ⟨gv2, hgv2⟩ : ∃ g, g = wd.heap.size := ⟨_, rfl⟩
        generalize hqv2 : World.alloc _ _ = v2
        have ev2 : wd.alloc (.cells sx.toArray 107 (0, 0)) = v2 := hqv2
        rw [ev2] at nf bb
        rw [← hgv2] at nf ⊢
        have NF := Lib.hid nf
        have ST := Lib.hid (ST.out.below bb)
        have KF := Lib.hid (KF.out.trans (Kps.new bb))
        have F4 := Lib.hid (row_below F4.out bb)
        have hv2 := (show _ ∧ _ from ⟨row_below hHeld.1 bb, row_below hHeld.2 bb⟩)
        clear nf bb hqv2 ev2 hgv2 hHeld
        go_frame
        refine hK.out _ _ hv2 (fun hHeld => ?_)
        clear hK K hv2
        refine wpAnyH_ready (rs := [10]) (by kernel_rfl) (by simp) (held_cons rfl (fun K hK => ?_) AllReadyH.nil)
        rw [if_pos (by rfl)]
        refine wp_append_row v2 (.tmp 23) (.tmp 28) 74 rfl w0.heap.size 107 i1 (.agg (stepL (spZ, false)).toArray) 69 104 Tryd.underlying74 hi1 hy0 hy1 hy2 (by kernel_rfl) (by decide) vb _ (st.map stepL).flatten rfl ST.out.row.1 ⟨gv2, 0, none⟩ 1 1 sx rfl (by rw [SXL.out]) (fun j u hj => by rw [Addr.add_mid]; exact range_of_box NF.out j u hj) SXO.out (by have := DL.out; unfold maxLen; omega) (by have := DL.out; omega) ST.out.kps.size ?_
        intro xv3 v3 q1 q2 q3
        have VO := Lib.hid (own_one q1)
        have hv3 : _ ∧ _ := ⟨ST.out.far1 hHeld.1 q2 (by decide), ST.out.far1 hHeld.2 q2 (by decide)⟩
        have F4 := Lib.hid (ST.out.far1 F4.out q2 (by decide))
        have KF := Lib.hid (KF.out.trans (Kps.grown q2 fun k _ hk e => hk.2.2.2 e.symm))
        have ST := Lib.hid (ST.out.push (x := (⟨p, c⟩, true)) SOK.out (by rw [← SXE.out]; exact q1) q2)
        clear q1 q2 q3 hHeld NF
        go_frame
        refine hK.out _ _ hv3 (fun hHeld => ?_)
        clear hK K hv3
        refine held_take (i := 11) (v := (.pointer (some ⟨gw, 0, none⟩))) rfl (by kernel_rfl) (by kernel_rfl) (by kernel_rfl) (fun _ _ _ h => h) (Or.inl ⟨by rfl, fun w' _ => by kernel_rfl⟩) hHeld ?_
        go_frame
        refine held_take (i := 12) (v := (.pointer (some ⟨gw, 1, none⟩))) rfl (by kernel_rfl) (by kernel_rfl) (by kernel_rfl) (fun _ _ _ h => h) (Or.inl ⟨by rfl, fun w' _ => by kernel_rfl⟩) hHeld ?_
        go_frame
        refine wpAnyH_ready (rs := [13]) (by kernel_rfl) (by simp) (held_cons rfl (fun K hK => ?_) AllReadyH.nil)
        rw [if_pos (by rfl)]
        refine wp_store_part 74 (.tmp 31) (.tmp 29) rfl gw 1 [(.pointer (some ⟨a, 0, none⟩))] [vb] [] [xv3] 76 xv3 rfl rfl (cells_one VO.out) rfl rfl (by rw [ST.out.box]; rfl) (by kernel_rfl) (one_mem VO.out) ?_
        intro v4 q1 q2
        have hv4 : _ ∧ _ := ⟨ST.out.far2 hHeld.1 q2 (by decide), ST.out.far2 hHeld.2 q2 (by decide)⟩
        have F4 := Lib.hid (ST.out.far2 F4.out q2 (by decide))
        have KF := Lib.hid (KF.out.trans (Kps.grown q2 fun k _ hk e => hk.2.2.1 (Option.some.inj e)))
        have ST := Lib.hid (ST.out.store (by rw [q1]; rfl) q2)
        clear q1 q2 hHeld
        go_frame
        refine hK.out _ _ hv4 (fun hHeld => ?_)
        clear hK K hv4
        refine wpAnyH_done (by kernel_rfl) ?_ _
        have F6 := Lib.hid hHeld.2
        clear hHeld
        go_wp2_with ((with_reducible show wpList _ _ _ _ _ _); first | (refine wpList_load_row rfl 31 (.tmp 6) rfl gc rfl 31 cm.toArray (0, 0) _ F6.out Tryd.underlying31 rfl (by rw [CSZ.out]; kernel_rfl) ?_; go_frame) | (refine wpList_store_row rfl 31 (.tmp 4) (.tmp 32) rfl g4 cm.toArray rfl rfl 31 _ F4.out (by rw [CSZ.out]; kernel_rfl) (by rw [CSZ.out]; rfl) CALL.out ?_; go_frame))
        refine bodyPost_ret (results_row_tmp rfl _ _ g4 31 cm.toArray (0, 0) _ rfl (setRow_heap _ _ _ _ _ _ F4.out) Tryd.underlying31 rfl (by rw [CSZ.out]; kernel_rfl)) rfl ?_
        exact ⟨rfl, Kps.far KF.out (setRow_grown _) NW4.out, _, ST.out.other F4.out (setRow_grown _) (by decide) (by decide) (by decide) N4.out⟩
      · skip
        rw [if_pos (by rfl)]
        refine wp_slice_one 74 107 (.tmp 27) rfl sx rfl Tryd.underlying74 i1 _ hi1 hy0 (by rw [hy1, SXL.out]) (by rw [SXL.out]; omega) (by rw [SXL.out]; omega) ?_
        have nf := heap_alloc_new wd (.cells sx.toArray 107 (0, 0))
        have bb := (Below.refl wd.heap.size wd).alloc (Nat.le_refl _) (.cells sx.toArray 107 (0, 0))
        obtain ⟨gv5, hgv5⟩ : ∃ g, g = wd.heap.size := ⟨_, rfl⟩
        generalize hqv5 : World.alloc _ _ = v5
        have ev5 : wd.alloc (.cells sx.toArray 107 (0, 0)) = v5 := hqv5
        rw [ev5] at nf bb
        rw [← hgv5] at nf ⊢
        have NF := Lib.hid nf
        have ST := Lib.hid (ST.out.below bb)
        have KF := Lib.hid (KF.out.trans (Kps.new bb))
        have F4 := Lib.hid (row_below F4.out bb)
        have hv5 := (show _ ∧ _ from ⟨row_below hHeld.1 bb, row_below hHeld.2 bb⟩)
        clear nf bb hqv5 ev5 hgv5 hHeld
        go_frame
        refine hK.out _ _ hv5 (fun hHeld => ?_)
        clear hK K hv5
        refine wpAnyH_ready (rs := [4]) (by kernel_rfl) (by simp) (held_cons rfl (fun K hK => ?_) AllReadyH.nil)
        rw [if_pos (by rfl)]
        refine wp_load_cell 74 (.tmp 22) rfl gw 1 rfl vb _ ST.out.steps Tryd.underlying74 rfl ?_
        go_frame
        refine hK.out _ _ hHeld (fun hHeld => ?_)
        clear hK K
        refine wpAnyH_ready (rs := [10]) (by kernel_rfl) (by simp) (held_cons rfl (fun K hK => ?_) AllReadyH.nil)
        rw [if_pos (by rfl)]
        refine wp_append_row v5 (.tmp 23) (.tmp 28) 74 rfl w0.heap.size 107 i1 (.agg (stepL (spZ, false)).toArray) 69 104 Tryd.underlying74 hi1 hy0 hy1 hy2 (by kernel_rfl) (by decide) vb _ (st.map stepL).flatten rfl ST.out.row.1 ⟨gv5, 0, none⟩ 1 1 sx rfl (by rw [SXL.out]) (fun j u hj => by rw [Addr.add_mid]; exact range_of_box NF.out j u hj) SXO.out (by have := DL.out; unfold maxLen; omega) (by have := DL.out; omega) ST.out.kps.size ?_
        intro xv7 v7 q1 q2 q3
        have VO := Lib.hid (own_one q1)
        have hv7 : _ ∧ _ := ⟨ST.out.far1 hHeld.1 q2 (by decide), ST.out.far1 hHeld.2 q2 (by decide)⟩
        have F4 := Lib.hid (ST.out.far1 F4.out q2 (by decide))
        have KF := Lib.hid (KF.out.trans (Kps.grown q2 fun k _ hk e => hk.2.2.2 e.symm))
        have ST := Lib.hid (ST.out.push (x := (⟨p, c⟩, true)) SOK.out (by rw [← SXE.out]; exact q1) q2)
        clear q1 q2 q3 hHeld NF
        go_frame
        refine hK.out _ _ hv7 (fun hHeld => ?_)
        clear hK K hv7
        refine held_take (i := 11) (v := (.pointer (some ⟨gw, 0, none⟩))) rfl (by kernel_rfl) (by kernel_rfl) (by kernel_rfl) (fun _ _ _ h => h) (Or.inl ⟨by rfl, fun w' _ => by kernel_rfl⟩) hHeld ?_
        go_frame
        refine held_take (i := 12) (v := (.pointer (some ⟨gw, 1, none⟩))) rfl (by kernel_rfl) (by kernel_rfl) (by kernel_rfl) (fun _ _ _ h => h) (Or.inl ⟨by rfl, fun w' _ => by kernel_rfl⟩) hHeld ?_
        go_frame
        refine wpAnyH_ready (rs := [13]) (by kernel_rfl) (by simp) (held_cons rfl (fun K hK => ?_) AllReadyH.nil)
        rw [if_pos (by rfl)]
        refine wp_store_part 74 (.tmp 31) (.tmp 29) rfl gw 1 [(.pointer (some ⟨a, 0, none⟩))] [vb] [] [xv7] 76 xv7 rfl rfl (cells_one VO.out) rfl rfl (by rw [ST.out.box]; rfl) (by kernel_rfl) (one_mem VO.out) ?_
        intro v8 q1 q2
        have hv8 : _ ∧ _ := ⟨ST.out.far2 hHeld.1 q2 (by decide), ST.out.far2 hHeld.2 q2 (by decide)⟩
        have F4 := Lib.hid (ST.out.far2 F4.out q2 (by decide))
        have KF := Lib.hid (KF.out.trans (Kps.grown q2 fun k _ hk e => hk.2.2.1 (Option.some.inj e)))
        have ST := Lib.hid (ST.out.store (by rw [q1]; rfl) q2)
        clear q1 q2 hHeld
        go_frame
        refine hK.out _ _ hv8 (fun hHeld => ?_)
        clear hK K hv8
        refine wpAnyH_done (by kernel_rfl) ?_ _
        have F6 := Lib.hid hHeld.2
        clear hHeld
        go_wp2_with ((with_reducible show wpList _ _ _ _ _ _); first | (refine wpList_load_row rfl 31 (.tmp 6) rfl gc rfl 31 cm.toArray (0, 0) _ F6.out Tryd.underlying31 rfl (by rw [CSZ.out]; kernel_rfl) ?_; go_frame) | (refine wpList_store_row rfl 31 (.tmp 4) (.tmp 32) rfl g4 cm.toArray rfl rfl 31 _ F4.out (by rw [CSZ.out]; kernel_rfl) (by rw [CSZ.out]; rfl) CALL.out ?_; go_frame))
        refine bodyPost_ret (results_row_tmp rfl _ _ g4 31 cm.toArray (0, 0) _ rfl (setRow_heap _ _ _ _ _ _ F4.out) Tryd.underlying31 rfl (by rw [CSZ.out]; kernel_rfl)) rfl ?_
        exact ⟨rfl, Kps.far KF.out (setRow_grown _) NW4.out, _, ST.out.other F4.out (setRow_grown _) (by decide) (by decide) (by decide) N4.out⟩
    | false =>
      obtain rfl : rc = 13 := RC.out
      rw [show errV E 13 = .iface 142 (.pointer (some (E 12))) from rfl]
      go_wp2_with ((with_reducible show wpList _ _ _ _ _ _); first | (refine wpList_load_row rfl 31 (.tmp 6) rfl gc rfl 31 cm.toArray (0, 0) _ F6.out Tryd.underlying31 rfl (by rw [CSZ.out]; kernel_rfl) ?_; go_frame) | (refine wpList_store_row rfl 31 (.tmp 4) (.tmp 32) rfl g4 cm.toArray rfl rfl 31 _ F4.out (by rw [CSZ.out]; kernel_rfl) (by rw [CSZ.out]; rfl) CALL.out ?_; go_frame))
      refine bodyPost_ret (results_row_tmp rfl _ _ g4 31 cm.toArray (0, 0) _ rfl (setRow_heap _ _ _ _ _ _ F4.out) Tryd.underlying31 rfl (by rw [CSZ.out]; kernel_rfl)) rfl ?_
      exact ⟨rfl, Kps.far KF.out (setRow_grown _) NW4.out, _, ST.out.other F4.out (setRow_grown _) (by decide) (by decide) (by decide) N4.out⟩
  · skip
    go_simp
    have nf := heap_alloc_new wd (.cells (mnL mnZ).toArray 31 (0, 0))
    have bb := (Below.refl wd.heap.size wd).alloc (Nat.le_refl _) (.cells (mnL mnZ).toArray 31 (0, 0))
    obtain ⟨gv4, hgv4⟩ : ∃ g, g = wd.heap.size := ⟨_, rfl⟩
    have GF6 : Hid (w1.heap.size ≤ gv4) := by show _ ≤ _; rw [hgv4]; exact hHeld.1
    generalize hqv4 : World.alloc _ _ = v4
    have ev4 : wd.alloc (.cells (mnL mnZ).toArray 31 (0, 0)) = v4 := hqv4
    rw [ev4] at nf bb
    rw [← hgv4] at nf ⊢
    have F6 := Lib.hid nf
    have ST := Lib.hid (ST.out.below bb)
    have F4 := Lib.hid (row_below F4.out bb)
    have KF := Lib.hid (KF.out.trans (Kps.new bb))
    have hv4 := (show _ ∧ _ ∧ _ from ⟨Nat.le_trans hHeld.1 bb.size, cell_below hHeld.2.1 bb, row_below hHeld.2.2 bb⟩)
    clear nf bb hqv4 ev4 hgv4 hHeld
    refine hK.out _ _ hv4 (fun hHeld => ?_)
    clear hK K hv4
    refine wpAnyH_ready (rs := [5]) (by kernel_rfl) (by simp) (held_cons rfl (fun K hK => ?_) AllReadyH.nil)
    go_simp
    refine (CS.out v4 ST.out.set (HE.out _ ST.out.kps)).mono ?_
    rintro e v5 ⟨rfl, s2, k2⟩
    have k3 := k2.mono (G := fun j => j ≠ a ∧ m ≠ some j) (fun j _ hj => hj.2)
    have hv5 : w1.heap.size ≤ v5.heap.size ∧ v5.cell? ⟨gw, 0, none⟩ = some (.pointer (some ⟨a, 0, none⟩)) ∧ v5.heap[g3]? = some (.cells cp.toArray 28 (0, 0)) := ⟨Nat.le_trans hHeld.1 k3.size, (ST.out.turn k3 s2 (.inl rfl)).ptr, ST.out.far3 hHeld.2.2 k3 (by decide)⟩
    have F4 := Lib.hid (ST.out.far3 F4.out k3 (by decide))
    have F6 := Lib.hid (ST.out.far3 F6.out k3 (by decide))
    have KF := Lib.hid (KF.out.trans (k3.mono fun j _ hj => ⟨hj.1, hj.2.1⟩))
    have ST := Lib.hid (ST.out.turn k3 s2 (.inl rfl))
    clear s2 k2 k3 hHeld
    go_wp2_with fail
    refine hK.out _ _ hv5 (fun hHeld => ?_)
    clear hK K hv5
    refine held_take (i := 6) (v := (.tuple #[.agg cm.toArray, errV E rc])) rfl (by kernel_rfl) (by kernel_rfl) (by kernel_rfl) (fun _ _ _ h => h) (Or.inl ⟨by rfl, fun w' _ => by kernel_rfl⟩) hHeld ?_
    go_frame
    refine held_take (i := 7) (v := (.agg cm.toArray)) rfl (by kernel_rfl) (by kernel_rfl) (by kernel_rfl) (fun _ _ _ h => h) (Or.inl ⟨by rfl, fun w' _ => by kernel_rfl⟩) hHeld ?_
    go_frame
    refine held_take (i := 8) (v := (errV E rc)) rfl (by kernel_rfl) (by kernel_rfl) (by kernel_rfl) (fun _ _ _ h => h) (Or.inl ⟨by rfl, fun w' _ => by kernel_rfl⟩) hHeld ?_
    go_frame
    refine wpAnyH_ready (rs := [10]) (by kernel_rfl) (by simp) (held_cons rfl (fun K hK => ?_) AllReadyH.nil)
    rw [if_pos (by rfl)]
    refine wp_store_whole 31 (.tmp 6) (.tmp 15) rfl gv4 (mnL mnZ) cm 31 rfl rfl (by rw [mnL_length mnZ_ok, CLN.out]) F6.out (by rw [CLN.out]; kernel_rfl) CALL.out ?_
    intro v6 q1 q2
    have kk : Kps (fun j => j < w1.heap.size) v5 v6 := Kps.grown q2 fun k _ hk e => by have h1 := Option.some.inj e; have h2 := GF6.out; omega
    have hv6 : w1.heap.size ≤ v6.heap.size ∧ v6.cell? ⟨gw, 0, none⟩ = some (.pointer (some ⟨a, 0, none⟩)) ∧ v6.heap[g3]? = some (.cells cp.toArray 28 (0, 0)) := ⟨Nat.le_trans hHeld.1 kk.size, (ST.out.other F6.out q2 (by decide) (by decide) (by decide) (Nat.le_trans W01.out GF6.out)).ptr, row_kps hHeld.2.2 kk L3.out⟩
    have F4 := Lib.hid (row_kps F4.out kk L4.out)
    have KF := Lib.hid (Kps.far KF.out q2 (Nat.le_trans W1.out GF6.out))
    have ST := Lib.hid (ST.out.other F6.out q2 (by decide) (by decide) (by decide) (Nat.le_trans W01.out GF6.out))
    have F6 := Lib.hid q1
    clear q1 q2 kk hHeld
    go_frame
    refine hK.out _ _ hv6 (fun hHeld => ?_)
    clear hK K hv6
    refine held_take (i := 11) (v := (errV E rc)) rfl (by kernel_rfl) (by kernel_rfl) (by kernel_rfl) (fun _ _ _ h => h) (Or.inl ⟨by rfl, fun w' _ => by kernel_rfl⟩) hHeld ?_
    go_frame
    refine wpAnyH_done (by kernel_rfl) ?_ _
    have F3 := Lib.hid hHeld.2.2
    clear hHeld
    obtain ⟨wy, hwy⟩ : ∃ wy, wy = v6 := ⟨_, rfl⟩
    obtain ⟨gc, hgc⟩ : ∃ gc, gc = gv4 := ⟨_, rfl⟩
    rw [← hgc] at F6
    rw [← hwy] at F3 F4 F6 ST KF ⊢
    rw [← hgc]
    clear hwy hgc
    cases q with
    | true =>
      obtain rfl : rc = 0 := RC.out
      rw [show errV E 0 = .nilIface from rfl]
      have SOK : Hid (SpOk ⟨p, c⟩) := ⟨HP.out, COK.out⟩
      obtain ⟨sp, hsp⟩ : ∃ sp, sp = spL ⟨p, c⟩ := ⟨_, rfl⟩
      obtain ⟨sx, hsx⟩ : ∃ sx, sx = stepL (⟨p, c⟩, true) := ⟨_, rfl⟩
      have SXE := Lib.hid hsx
      have SXL : Hid (sx.length = 69) := by show _ = _; rw [hsx]; exact stepL_length SOK.out
      have SXO : Hid (∀ u ∈ sx, u.oneCell' = true) := by rw [hsx]; exact stepL_one _
      have SPB : Hid (Tryd.prog.built 33 [(0, .agg cp.toArray), (1, .agg cm.toArray)] = some sp.toArray) := by
        show _ = _
        rw [CPE.out, CME.out, hsp]
        exact built_sp _ SOK.out
      have STB : Hid (Tryd.prog.built 107 [(0, .agg sp.toArray), (1, .bool true)] = some sx.toArray) := by
        show _ = _
        rw [hsp, hsx]
        exact built_step _ true SOK.out
      clear hsp hsx
      go_upto_region 3 with fail
      refine wp_region_held_drew (S := (fun w' => w'.heap[g3]? = some (.cells cp.toArray 28 (0, 0)) ∧ w'.heap[gc]? = some (.cells cm.toArray 31 (0, 0)))) (by kernel_rfl) (⟨row_below F3.out (Below.drew (Below.refl _ _)), row_below F6.out (Below.drew (Below.refl _ _))⟩) (fun hHeld => ?_)
      have ST := Lib.hid (ST.out.below (Below.drew (Below.refl _ _)))
      have F4 := Lib.hid (row_below F4.out (Below.drew (Below.refl _ _)))
      have KF := Lib.hid (KF.out.trans (Kps.new (Below.drew (Below.refl _ _))))
      generalize hwd : wy.drew = wd at ST F4 KF hHeld ⊢
      clear hwd
      refine held_take (i := 0) (v := (.pointer (some ⟨gw, 0, none⟩))) rfl (by kernel_rfl) (by kernel_rfl) (by kernel_rfl) (fun _ _ _ h => h) (Or.inl ⟨by rfl, fun w' _ => by kernel_rfl⟩) hHeld ?_
      go_frame
      refine held_take (i := 1) (v := (.pointer (some ⟨gw, 0, none⟩))) rfl (by kernel_rfl) (by kernel_rfl) (by kernel_rfl) (fun _ _ _ h => h) (Or.inl ⟨by rfl, fun w' _ => by kernel_rfl⟩) hHeld ?_
      go_frame
      refine held_take (i := 2) (v := (.pointer (some ⟨gw, 0, none⟩))) rfl (by kernel_rfl) (by kernel_rfl) (by kernel_rfl) (fun _ _ _ h => h) (Or.inl ⟨by rfl, fun w' _ => by kernel_rfl⟩) hHeld ?_
      go_frame
      refine held_take (i := 3) (v := (.pointer (some ⟨gw, 1, none⟩))) rfl (by kernel_rfl) (by kernel_rfl) (by kernel_rfl) (fun _ _ _ h => h) (Or.inl ⟨by rfl, fun w' _ => by kernel_rfl⟩) hHeld ?_
      go_frame
      refine held_take (i := 5) (v := (.agg cp.toArray)) rfl (by kernel_rfl) (by kernel_rfl) (by kernel_rfl) (fun _ _ _ h => h) (yieldsIf_load_row (by rfl) 28 (.tmp 3) rfl g3 rfl 28 cp.toArray (0, 0) _ (fun w' hw' => hw'.1) Tryd.underlying28 rfl (by rw [PSZ.out]; kernel_rfl)) hHeld ?_
      go_frame
      refine held_take (i := 6) (v := (.agg cm.toArray)) rfl (by kernel_rfl) (by kernel_rfl) (by kernel_rfl) (fun _ _ _ h => h) (yieldsIf_load_row (by rfl) 31 (.tmp 6) rfl gc rfl 31 cm.toArray (0, 0) _ (fun w' hw' => hw'.2) Tryd.underlying31 rfl (by rw [CSZ.out]; kernel_rfl)) hHeld ?_
      go_frame
      refine held_take (i := 7) (v := (.agg sp.toArray)) rfl (by kernel_rfl) (by kernel_rfl) (by kernel_rfl) (fun _ _ _ h => h) (yieldsIf_build (by rfl) 33 _ rfl [(0, .agg cp.toArray), (1, .agg cm.toArray)] (by kernel_rfl) _ SPB.out) hHeld ?_
      go_frame
      refine held_take (i := 8) (v := (.agg sx.toArray)) rfl (by kernel_rfl) (by kernel_rfl) (by kernel_rfl) (fun _ _ _ h => h) (yieldsIf_build (by rfl) 107 _ rfl [(0, .agg sp.toArray), (1, .bool true)] (by kernel_rfl) _ STB.out) hHeld ?_
      go_frame
      refine wpAnyH_ready (rs := [4, 9]) (by kernel_rfl) (by simp) (held_cons rfl (fun K hK => ?_) (held_cons rfl (fun K hK => ?_) AllReadyH.nil))
      · skip
        rw [if_pos (by rfl)]
        refine wp_load_cell 74 (.tmp 22) rfl gw 1 rfl vb _ ST.out.steps Tryd.underlying74 rfl ?_
        go_frame
        refine hK.out _ _ hHeld (fun hHeld => ?_)
        clear hK K
        refine wpAnyH_ready (rs := [9]) (by kernel_rfl) (by simp) (held_cons rfl (fun K hK => ?_) AllReadyH.nil)
        rw [if_pos (by rfl)]
        refine wp_slice_one 74 107 (.tmp 27) rfl sx rfl Tryd.underlying74 i1 _ hi1 hy0 (by rw [hy1, SXL.out]) (by rw [SXL.out]; omega) (by rw [SXL.out]; omega) ?_
        have nf := heap_alloc_new wd (.cells sx.toArray 107 (0, 0))
        have bb := (Below.refl wd.heap.size wd).alloc (Nat.le_refl _) (.cells sx.toArray 107 (0, 0))
        obtain ⟨gv2, hgv2⟩ : ∃ g, g = wd.heap.size := ⟨_, rfl⟩
        generalize hqv2 : World.alloc _ _ = v2
        have ev2 : wd.alloc (.cells sx.toArray 107 (0, 0)) = v2 := hqv2
        rw [ev2] at nf bb
        rw [← hgv2] at nf ⊢
        have NF := Lib.hid nf
        have ST := Lib.hid (ST.out.below bb)
        have KF := Lib.hid (KF.out.trans (Kps.new bb))
        have F4 := Lib.hid (row_below F4.out bb)
        have hv2 := (show _ ∧ _ from ⟨row_below hHeld.1 bb, row_below hHeld.2 bb⟩)
        clear nf bb hqv2 ev2 hgv2 hHeld
        go_frame
        refine hK.out _ _ hv2 (fun hHeld => ?_)
        clear hK K hv2
        refine wpAnyH_ready (rs := [10]) (by kernel_rfl) (by simp) (held_cons rfl (fun K hK => ?_) AllReadyH.nil)
        rw [if_pos (by rfl)]
        refine wp_append_row v2 (.tmp 23) (.tmp 28) 74 rfl w0.heap.size 107 i1 (.agg (stepL (spZ, false)).toArray) 69 104 Tryd.underlying74 hi1 hy0 hy1 hy2 (by kernel_rfl) (by decide) vb _ (st.map stepL).flatten rfl ST.out.row.1 ⟨gv2, 0, none⟩ 1 1 sx rfl (by rw [SXL.out]) (fun j u hj => by rw [Addr.add_mid]; exact range_of_box NF.out j u hj) SXO.out (by have := DL.out; unfold maxLen; omega) (by have := DL.out; omega) ST.out.kps.size ?_
        intro xv3 v3 q1 q2 q3
        have VO := Lib.hid (own_one q1)
        have hv3 : _ ∧ _ := ⟨ST.out.far1 hHeld.1 q2 (by decide), ST.out.far1 hHeld.2 q2 (by decide)⟩
        have F4 := Lib.hid (ST.out.far1 F4.out q2 (by decide))
        have KF := Lib.hid (KF.out.trans (Kps.grown q2 fun k _ hk e => hk.2.2.2 e.symm))
        have ST := Lib.hid (ST.out.push (x := (⟨p, c⟩, true)) SOK.out (by rw [← SXE.out]; exact q1) q2)
        clear q1 q2 q3 hHeld NF
        go_frame
        refine hK.out _ _ hv3 (fun hHeld => ?_)
        clear hK K hv3
        refine held_take (i := 11) (v := (.pointer (some ⟨gw, 0, none⟩))) rfl (by kernel_rfl) (by kernel_rfl) (by kernel_rfl) (fun _ _ _ h => h) (Or.inl ⟨by rfl, fun w' _ => by kernel_rfl⟩) hHeld ?_
        go_frame
        refine held_take (i := 12) (v := (.pointer (some ⟨gw, 1, none⟩))) rfl (by kernel_rfl) (by kernel_rfl) (by kernel_rfl) (fun _ _ _ h => h) (Or.inl ⟨by rfl, fun w' _ => by kernel_rfl⟩) hHeld ?_
        go_frame
        refine wpAnyH_ready (rs := [13]) (by kernel_rfl) (by simp) (held_cons rfl (fun K hK => ?_) AllReadyH.nil)
        rw [if_pos (by rfl)]
        refine wp_store_part 74 (.tmp 31) (.tmp 29) rfl gw 1 [(.pointer (some ⟨a, 0, none⟩))] [vb] [] [xv3] 76 xv3 rfl rfl (cells_one VO.out) rfl rfl (by rw [ST.out.box]; rfl) (by kernel_rfl) (one_mem VO.out) ?_
        intro v4 q1 q2
        have hv4 : _ ∧ _ := ⟨ST.out.far2 hHeld.1 q2 (by decide), ST.out.far2 hHeld.2 q2 (by decide)⟩
        have F4 := Lib.hid (ST.out.far2 F4.out q2 (by decide))
        have KF := Lib.hid (KF.out.trans (Kps.grown q2 fun k _ hk e => hk.2.2.1 (Option.some.inj e)))
        have ST := Lib.hid (ST.out.store (by rw [q1]; rfl) q2)
        clear q1 q2 hHeld
        go_frame
        refine hK.out _ _ hv4 (fun hHeld => ?_)
        clear hK K hv4
        refine wpAnyH_done (by kernel_rfl) ?_ _
        have F6 := Lib.hid hHeld.2
        clear hHeld
        go_wp2_with ((with_reducible show wpList _ _ _ _ _ _); first | (refine wpList_load_row rfl 31 (.tmp 6) rfl gc rfl 31 cm.toArray (0, 0) _ F6.out Tryd.underlying31 rfl (by rw [CSZ.out]; kernel_rfl) ?_; go_frame) | (refine wpList_store_row rfl 31 (.tmp 4) (.tmp 32) rfl g4 cm.toArray rfl rfl 31 _ F4.out (by rw [CSZ.out]; kernel_rfl) (by rw [CSZ.out]; rfl) CALL.out ?_; go_frame))
        refine bodyPost_ret (results_row_tmp rfl _ _ g4 31 cm.toArray (0, 0) _ rfl (setRow_heap _ _ _ _ _ _ F4.out) Tryd.underlying31 rfl (by rw [CSZ.out]; kernel_rfl)) rfl ?_
        exact ⟨rfl, Kps.far KF.out (setRow_grown _) NW4.out, _, ST.out.other F4.out (setRow_grown _) (by decide) (by decide) (by decide) N4.out⟩
      · skip
        rw [if_pos (by rfl)]
        refine wp_slice_one 74 107 (.tmp 27) rfl sx rfl Tryd.underlying74 i1 _ hi1 hy0 (by rw [hy1, SXL.out]) (by rw [SXL.out]; omega) (by rw [SXL.out]; omega) ?_
        have nf := heap_alloc_new wd (.cells sx.toArray 107 (0, 0))
        have bb := (Below.refl wd.heap.size wd).alloc (Nat.le_refl _) (.cells sx.toArray 107 (0, 0))
        obtain ⟨gv5, hgv5⟩ : ∃ g, g = wd.heap.size := ⟨_, rfl⟩
        generalize hqv5 : World.alloc _ _ = v5
        have ev5 : wd.alloc (.cells sx.toArray 107 (0, 0)) = v5 := hqv5
        rw [ev5] at nf bb
        rw [← hgv5] at nf ⊢
        have NF := Lib.hid nf
        have ST := Lib.hid (ST.out.below bb)
        have KF := Lib.hid (KF.out.trans (Kps.new bb))
        have F4 := Lib.hid (row_below F4.out bb)
        have hv5 := (show _ ∧ _ from ⟨row_below hHeld.1 bb, row_below hHeld.2 bb⟩)
        clear nf bb hqv5 ev5 hgv5 hHeld
        go_frame
        refine hK.out _ _ hv5 (fun hHeld => ?_)
        clear hK K hv5
        refine wpAnyH_ready (rs := [4]) (by kernel_rfl) (by simp) (held_cons rfl (fun K hK => ?_) AllReadyH.nil)
        rw [if_pos (by rfl)]
        refine wp_load_cell 74 (.tmp 22) rfl gw 1 rfl vb _ ST.out.steps Tryd.underlying74 rfl ?_
        go_frame
        refine hK.out _ _ hHeld (fun hHeld => ?_)
        clear hK K
        refine wpAnyH_ready (rs := [10]) (by kernel_rfl) (by simp) (held_cons rfl (fun K hK => ?_) AllReadyH.nil)
        rw [if_pos (by rfl)]
        refine wp_append_row v5 (.tmp 23) (.tmp 28) 74 rfl w0.heap.size 107 i1 (.agg (stepL (spZ, false)).toArray) 69 104 Tryd.underlying74 hi1 hy0 hy1 hy2 (by kernel_rfl) (by decide) vb _ (st.map stepL).flatten rfl ST.out.row.1 ⟨gv5, 0, none⟩ 1 1 sx rfl (by rw [SXL.out]) (fun j u hj => by rw [Addr.add_mid]; exact range_of_box NF.out j u hj) SXO.out (by have := DL.out; unfold maxLen; omega) (by have := DL.out; omega) ST.out.kps.size ?_
        intro xv7 v7 q1 q2 q3
        have VO := Lib.hid (own_one q1)
        have hv7 : _ ∧ _ := ⟨ST.out.far1 hHeld.1 q2 (by decide), ST.out.far1 hHeld.2 q2 (by decide)⟩
        have F4 := Lib.hid (ST.out.far1 F4.out q2 (by decide))
        have KF := Lib.hid (KF.out.trans (Kps.grown q2 fun k _ hk e => hk.2.2.2 e.symm))
        have ST := Lib.hid (ST.out.push (x := (⟨p, c⟩, true)) SOK.out (by rw [← SXE.out]; exact q1) q2)
        clear q1 q2 q3 hHeld NF
        go_frame
        refine hK.out _ _ hv7 (fun hHeld => ?_)
        clear hK K hv7
        refine held_take (i := 11) (v := (.pointer (some ⟨gw, 0, none⟩))) rfl (by kernel_rfl) (by kernel_rfl) (by kernel_rfl) (fun _ _ _ h => h) (Or.inl ⟨by rfl, fun w' _ => by kernel_rfl⟩) hHeld ?_
        go_frame
        refine held_take (i := 12) (v := (.pointer (some ⟨gw, 1, none⟩))) rfl (by kernel_rfl) (by kernel_rfl) (by kernel_rfl) (fun _ _ _ h => h) (Or.inl ⟨by rfl, fun w' _ => by kernel_rfl⟩) hHeld ?_
        go_frame
        refine wpAnyH_ready (rs := [13]) (by kernel_rfl) (by simp) (held_cons rfl (fun K hK => ?_) AllReadyH.nil)
        rw [if_pos (by rfl)]
        refine wp_store_part 74 (.tmp 31) (.tmp 29) rfl gw 1 [(.pointer (some ⟨a, 0, none⟩))] [vb] [] [xv7] 76 xv7 rfl rfl (cells_one VO.out) rfl rfl (by rw [ST.out.box]; rfl) (by kernel_rfl) (one_mem VO.out) ?_
        intro v8 q1 q2
        have hv8 : _ ∧ _ := ⟨ST.out.far2 hHeld.1 q2 (by decide), ST.out.far2 hHeld.2 q2 (by decide)⟩
        have F4 := Lib.hid (ST.out.far2 F4.out q2 (by decide))
        have KF := Lib.hid (KF.out.trans (Kps.grown q2 fun k _ hk e => hk.2.2.1 (Option.some.inj e)))
        have ST := Lib.hid (ST.out.store (by rw [q1]; rfl) q2)
        clear q1 q2 hHeld
        go_frame
        refine hK.out _ _ hv8 (fun hHeld => ?_)
        clear hK K hv8
        refine wpAnyH_done (by kernel_rfl) ?_ _
        have F6 := Lib.hid hHeld.2
        clear hHeld
        go_wp2_with ((with_reducible show wpList _ _ _ _ _ _); first | (refine wpList_load_row rfl 31 (.tmp 6) rfl gc rfl 31 cm.toArray (0, 0) _ F6.out Tryd.underlying31 rfl (by rw [CSZ.out]; kernel_rfl) ?_; go_frame) | (refine wpList_store_row rfl 31 (.tmp 4) (.tmp 32) rfl g4 cm.toArray rfl rfl 31 _ F4.out (by rw [CSZ.out]; kernel_rfl) (by rw [CSZ.out]; rfl) CALL.out ?_; go_frame))
        refine bodyPost_ret (results_row_tmp rfl _ _ g4 31 cm.toArray (0, 0) _ rfl (setRow_heap _ _ _ _ _ _ F4.out) Tryd.underlying31 rfl (by rw [CSZ.out]; kernel_rfl)) rfl ?_
        exact ⟨rfl, Kps.far KF.out (setRow_grown _) NW4.out, _, ST.out.other F4.out (setRow_grown _) (by decide) (by decide) (by decide) N4.out⟩
    | false =>
      obtain rfl : rc = 13 := RC.out
      rw [show errV E 13 = .iface 142 (.pointer (some (E 12))) from rfl]
      go_wp2_with ((with_reducible show wpList _ _ _ _ _ _); first | (refine wpList_load_row rfl 31 (.tmp 6) rfl gc rfl 31 cm.toArray (0, 0) _ F6.out Tryd.underlying31 rfl (by rw [CSZ.out]; kernel_rfl) ?_; go_frame) | (refine wpList_store_row rfl 31 (.tmp 4) (.tmp 32) rfl g4 cm.toArray rfl rfl 31 _ F4.out (by rw [CSZ.out]; kernel_rfl) (by rw [CSZ.out]; rfl) CALL.out ?_; go_frame))
      refine bodyPost_ret (results_row_tmp rfl _ _ g4 31 cm.toArray (0, 0) _ rfl (setRow_heap _ _ _ _ _ _ F4.out) Tryd.underlying31 rfl (by rw [CSZ.out]; kernel_rfl)) rfl ?_
      exact ⟨rfl, Kps.far KF.out (setRow_grown _) NW4.out, _, ST.out.other F4.out (setRow_grown _) (by decide) (by decide) (by decide) N4.out⟩
end Go.Proofs.YtibfamhhjnaeiaaDoor.Sha
