/-
  Texts of this proof joined into one file: CnSet, CnSpend, RefRipe, CmpRead, CmpHash, Par, TxRead2, TxTakeM, TxTakeIn, TxTakeW0, CutS, RwApp, CnAdd, CnTotal, ShaCmp, PtLess, PtOrd, CnLay, CnSort, CnSt, CnBuilt, CnAll, CnBytes. What each holds, and under which conditions, its own first sentence tells.
-/
import Derived.Deep.RegionLaw
import Derived.Maps.AppendAt
import Derived.WalkSpells
import Derived.Carry
import Derived.Lib.Bytealg
import Derived.Lib.BytesEntry
import Derived.Sort.Grow
import Derived.Shelf.SlGeneric
import Derived.Shelf.SlSortCmp.WholeK
import Derived.Test.YtckkcpplanfmhaaGreatDoorMg05
import Derived.Test.YtckkcpplanfmhaaGreatDoorMg04
import Derived.Test.YtckkcpplanfmhaaGreatDoorMg01
import Derived.Test.YtckkcpplanfmhaaGreatDoorMg03
/-
  A set of coins in memory: how many, what is at a place. Nothing that was there turns. Conditions: the set lies where the pointer says; a place as the model has it.
-/
namespace Go.Proofs.YtckkcpplanfmhaaGreatDoor.Sha
open Go Go.RowKit
theorem yieldsIf_lookup {P : Program} {ops : Array Oper} {S : World → Prop} {op : Oper} {a : Act} (hw : Region.wanted op (yielded ops a.tmps) = true) (t : TypeId) (x y : Operand) (c : Bool) (ho : op.op = .lookup t x y c)
    (u v z : Value) (hx : a.eval x = u) (hy : a.eval y = v) (h : ∀ w, S w → (Instr.lookup t u v c).run P w = .ok z w) : YieldsIf P ops S op z a :=
  .inl ⟨hw, fun w hw' => by
    unfold execOp
    simp [ho, hx, hy, h w hw', Sem.run_bind, Result.andThen]⟩
/-- A set's box: its map. -/
structure SetAt (w : World) (a : Nat) (m : Option Nat) (l : List TSp) : Prop where
  box : w.heap[a]? = some (.cells #[.map m] 76 (0, 0))
  map : MapO w m l
section
variable {w w' : World} {a : Nat} {m : Option Nat} {l : List TSp}
theorem SetAt.kps {F : Nat → Prop} (h : SetAt w a m l) (hk : Kps F w w') (ha : F a) (hf : ∀ b, m = some b → F b) : SetAt w' a m l := ⟨row_kps h.box hk ha, h.map.kps hk hf⟩
theorem MapO.lt (h : MapO w m l) : ∀ b, m = some b → b < w.heap.size := fun b e => by
  subst e
  exact MapAt.lt h
theorem SetAt.below (h : SetAt w a m l) (hb : Below w.heap.size w w') : SetAt w' a m l :=
  h.kps (F := fun k => k < w.heap.size) (Kps.below hb fun _ h _ => h) (Array.getElem?_eq_some_iff.1 h.box).1 h.map.lt
theorem SetAt.cell (h : SetAt w a m l) : w.cell? ⟨a, 0, none⟩ = some (.map m) := by rw [cell_of_row _ _ _ _ _ _ h.box]; rfl
theorem SetAt.ne (h : SetAt w a m l) : m ≠ some a := fun e => by
  subst e
  obtain ⟨es, clock, hb, _⟩ := (show MapAt w a l from h.map)
  rw [h.box] at hb
  cases hb
theorem getD_ok (h : ∀ x ∈ l, SpOk x) (p : TPt) : MnOk ((getC l p).getD mnZ) := by
  unfold getC
  cases hf : l.find? (fun x => decide (x.at_ = p)) with
  | none => exact mnZ_ok
  | some x => exact (h x (List.mem_of_find?_eq_some hf)).2
end
theorem SetAt.rowne {w : World} {a : Nat} {m : Option Nat} {l : List TSp} (hs : SetAt w a m l) {x : Nat} {cs : Array Value} {T : TypeId} {fr : Nat × Nat} (hx : w.heap[x]? = some (.cells cs T fr)) : m ≠ some x := by
  intro e
  have hmap := hs.map
  rw [e] at hmap
  obtain ⟨_, _, h1, _⟩ := hmap
  rw [hx] at h1
  cases h1
theorem SetAt.boxne {w : World} {a : Nat} {m : Option Nat} {l : List TSp} (hs : SetAt w a m l) {x : Nat} {cs : Array Value} {T : TypeId} {fr : Nat × Nat} (hT : T ≠ 76) (hx : w.heap[x]? = some (.cells cs T fr)) : x ≠ a := by
  intro e
  rw [e, hs.box] at hx
  cases hx
  exact hT rfl
set_option maxHeartbeats 2000000 in
set_option maxRecDepth 100000 in
theorem setget_any (w : World) (a : Nat) (m : Option Nat) (l : List TSp) (p : TPt) (hs : SetAt w a m l) (hp : PtOk p) :
    Calls Tryz.prog 200 #[.pointer (some ⟨a, 0, none⟩), .agg (ptC p).toArray] w fun e w' => e = .returned (.tuple #[.agg (mnL ((getC l p).getD mnZ)).toArray, .bool (getC l p).isSome]) ∧ Below w.heap.size w w' := by
  have HS := Lib.hid hs
  have PSZ : Hid ((ptC p).toArray.size = 33) := ptC_size hp
  have CK : Hid (MnOk ((getC l p).getD mnZ)) := getD_ok hs.map.ok p
  obtain ⟨c, hc⟩ : ∃ c, c = (getC l p).getD mnZ := ⟨_, rfl⟩
  obtain ⟨b, hb⟩ : ∃ b, b = (getC l p).isSome := ⟨_, rfl⟩
  rw [← hc] at CK
  have LK : Hid (∀ W, Below w.heap.size w W → (Instr.lookup 74 (.map m) (.agg (ptC p).toArray) true).run Tryz.prog W = .ok (.tuple #[.agg (mnL c).toArray, .bool b]) W) := fun W hW => by
    rw [hc, hb]
    exact map_look (hs.below hW).map p hp
  rw [← hc, ← hb]
  have CSZ : Hid ((mnL c).toArray.size = 35) := mnL_size CK.out
  have CLN : Hid ((mnL c).length = 35) := mnL_length CK.out
  have CONE : Hid ((mnL c).toArray.all (·.oneCell') = true) := mnL_all c
  obtain ⟨cm, hcm⟩ : ∃ cm, cm = mnL c := ⟨_, rfl⟩
  obtain ⟨cp, hcp⟩ : ∃ cp, cp = ptC p := ⟨_, rfl⟩
  rw [← hcm] at LK CSZ CLN CONE ⊢
  rw [← hcp] at LK PSZ ⊢
  clear hs hp hc hb hcm hcp
  go_enter Tryz.func200, Tryz.ntmps200
  go_upto_region 1 with fail
  have f3 := row_below (heap_alloc_new w (.cells cp.toArray 50 (0, 0))) ((Below.refl _ _).alloc (Nat.le_refl _) (.cells (mnL mnZ).toArray 46 (0, 0)))
  have f4 := heap_alloc_new (w.alloc (.cells cp.toArray 50 (0, 0))) (.cells (mnL mnZ).toArray 46 (0, 0))
  have b0 := ((Below.refl w.heap.size w).alloc (Nat.le_refl _) (.cells cp.toArray 50 (0, 0))).alloc (by simp) (.cells (mnL mnZ).toArray 46 (0, 0))
  rw [World.size_alloc] at f4
  generalize hw1 : World.alloc _ _ = w1
  have e1 : (w.alloc (.cells cp.toArray 50 (0, 0))).alloc (.cells (mnL mnZ).toArray 46 (0, 0)) = w1 := hw1
  rw [e1] at f3 f4 b0
  obtain ⟨g3, hg3⟩ : ∃ g3, g3 = w.heap.size := ⟨_, rfl⟩
  have G3 : Hid (w.heap.size ≤ g3) := by show _ ≤ _; rw [hg3]; exact Nat.le_refl _
  rw [← hg3] at f3 f4 ⊢
  have F3 := Lib.hid f3
  have F4 := Lib.hid f4
  have B0 := Lib.hid b0
  have HS1 := Lib.hid (HS.out.below b0)
  have LK1 : Hid (∀ W, Below w1.heap.size w1 W → (Instr.lookup 74 (.map m) (.agg cp.toArray) true).run Tryz.prog W = .ok (.tuple #[.agg cm.toArray, .bool b]) W) := fun W hW => LK.out W (B0.out.trans (hW.mono B0.out.size))
  clear f3 f4 b0 hw1 e1 hg3
  refine wp_region_held_drew (S := (fun w' => Below w1.heap.size w1 w')) (by kernel_rfl) (Below.drew (Below.refl _ _)) (fun hHeld => ?_)
  generalize hwd : w1.drew = wd at  hHeld ⊢
  clear hwd
  refine held_take (i := 0) (v := (.pointer (some ⟨a, 0, none⟩))) rfl (by kernel_rfl) (by kernel_rfl) (by kernel_rfl) (fun _ _ _ h => h) (Or.inl ⟨by rfl, fun w' _ => by kernel_rfl⟩) hHeld ?_
  go_frame
  refine held_take (i := 1) (v := (.pointer (some ⟨a, 0, none⟩))) rfl (by kernel_rfl) (by kernel_rfl) (by kernel_rfl) (fun _ _ _ h => h) (Or.inl ⟨by rfl, fun w' _ => by kernel_rfl⟩) hHeld ?_
  go_frame
  refine held_take (i := 2) (v := (.pointer (some ⟨a, 0, none⟩))) rfl (by kernel_rfl) (by kernel_rfl) (by kernel_rfl) (fun _ _ _ h => h) (Or.inl ⟨by rfl, fun w' _ => by kernel_rfl⟩) hHeld ?_
  go_frame
  refine held_take (i := 3) (v := (.map m)) rfl (by kernel_rfl) (by kernel_rfl) (by kernel_rfl) (fun _ _ _ h => h) (yieldsIf_load_one (by rfl) 74 (.tmp 11) rfl a (0) rfl _ _ (fun w' hw' => (HS1.out.below hw').cell) Tryz.underlying74 rfl) hHeld ?_
  go_frame
  refine held_take (i := 4) (v := (.agg cp.toArray)) rfl (by kernel_rfl) (by kernel_rfl) (by kernel_rfl) (fun _ _ _ h => h) (yieldsIf_load_row (by rfl) 50 (.tmp 3) rfl g3 rfl 50 cp.toArray (0, 0) _ (fun w' hw' => row_below F3.out hw') Tryz.underlying50 rfl (by rw [PSZ.out]; kernel_rfl)) hHeld ?_
  go_frame
  refine held_take (i := 5) (v := (.tuple #[.agg cm.toArray, .bool b])) rfl (by kernel_rfl) (by kernel_rfl) (by kernel_rfl) (fun _ _ _ h => h) (yieldsIf_lookup (by rfl) 74 (.tmp 12) (.tmp 13) true rfl _ _ _ rfl rfl (fun w' hw' => LK1.out w' hw')) hHeld ?_
  go_frame
  refine held_take (i := 6) (v := (.tuple #[.agg cm.toArray, .bool b])) rfl (by kernel_rfl) (by kernel_rfl) (by kernel_rfl) (fun _ _ _ h => h) (Or.inl ⟨by rfl, fun w' _ => by kernel_rfl⟩) hHeld ?_
  go_frame
  refine held_take (i := 7) (v := (.agg cm.toArray)) rfl (by kernel_rfl) (by kernel_rfl) (by kernel_rfl) (fun _ _ _ h => h) (Or.inl ⟨by rfl, fun w' _ => by kernel_rfl⟩) hHeld ?_
  go_frame
  refine held_take (i := 8) (v := (.bool b)) rfl (by kernel_rfl) (by kernel_rfl) (by kernel_rfl) (fun _ _ _ h => h) (Or.inl ⟨by rfl, fun w' _ => by kernel_rfl⟩) hHeld ?_
  go_frame
  refine wpAnyH_ready (rs := [9]) (by kernel_rfl) (by simp) (held_cons rfl (fun K hK => ?_) AllReadyH.nil)
  go_simp
  have nf := heap_alloc_new wd (.cells (mnL mnZ).toArray 46 (0, 0))
  have bb := (Below.refl wd.heap.size wd).alloc (Nat.le_refl _) (.cells (mnL mnZ).toArray 46 (0, 0))
  obtain ⟨gv1, hgv1⟩ : ∃ g, g = wd.heap.size := ⟨_, rfl⟩
  have GF6 : Hid (w1.heap.size ≤ gv1) := by show _ ≤ _; rw [hgv1]; exact hHeld.size
  generalize hqv1 : World.alloc _ _ = v1
  have ev1 : wd.alloc (.cells (mnL mnZ).toArray 46 (0, 0)) = v1 := hqv1
  rw [ev1] at nf bb
  rw [← hgv1] at nf ⊢
  have F6 := Lib.hid nf
  have hv1 := hHeld.trans (bb.mono hHeld.size)
  clear nf bb hqv1 ev1 hgv1 hHeld
  refine hK.out _ _ hv1 (fun hHeld => ?_)
  clear hK K hv1
  refine wpAnyH_ready (rs := [10]) (by kernel_rfl) (by simp) (held_cons rfl (fun K hK => ?_) AllReadyH.nil)
  rw [if_pos (by rfl)]
  refine wp_store_whole 46 (.tmp 6) (.tmp 15) rfl gv1 (mnL mnZ) cm 46 rfl rfl (by rw [mnL_length mnZ_ok, CLN.out]) F6.out (by rw [CLN.out]; kernel_rfl) (CONE.out) ?_
  intro v2 q1 q2
  have F6 := Lib.hid q1
  have hv2 := hHeld.grown q2 hHeld.size (fun k hk => by cases hk; exact GF6.out)
  clear q1 q2 hHeld
  go_frame
  refine hK.out _ _ hv2 (fun hHeld => ?_)
  clear hK K hv2
  refine held_take (i := 11) (v := (.bool b)) rfl (by kernel_rfl) (by kernel_rfl) (by kernel_rfl) (fun _ _ _ h => h) (Or.inl ⟨by rfl, fun w' _ => by kernel_rfl⟩) hHeld ?_
  go_frame
  refine wpAnyH_done (by kernel_rfl) ?_ _
  have B1 := Lib.hid (B0.out.trans (hHeld.mono B0.out.size))
  have F4 := Lib.hid (row_below F4.out hHeld)
  clear hHeld
  go_wp2_with ((with_reducible show wpList _ _ _ _ _ _); first | (refine wpList_load_row rfl 46 (.tmp 6) rfl gv1 rfl 46 cm.toArray (0, 0) _ F6.out Tryz.underlying46 rfl (by rw [CSZ.out]; kernel_rfl) ?_; go_frame) | (refine wpList_store_row rfl 46 (.tmp 4) (.tmp 17) rfl (g3 + 1) cm.toArray rfl rfl 46 _ F4.out (by rw [CSZ.out]; kernel_rfl) (by rw [CSZ.out]; rfl) CONE.out ?_; go_frame))
  refine bodyPost_ret (results_row_tmp rfl _ _ (g3 + 1) 46 cm.toArray (0, 0) _ rfl (setRow_heap _ _ _ _ _ _ F4.out) Tryz.underlying46 rfl (by rw [CSZ.out]; kernel_rfl)) rfl ?_
  exact ⟨rfl, below_setRow B1.out (by have := G3.out; omega) _⟩
end Go.Proofs.YtckkcpplanfmhaaGreatDoor.Sha

/-
  A coin is spent, or added; the map alone turns, and the set's box where it had none. Conditions: the set lies where the pointer says; a place, a coin as the model has them; the errors are there.
-/
namespace Go.Proofs.YtckkcpplanfmhaaGreatDoor.Sha
open Go Go.RowKit
theorem wp_put_cn {op : Oper} {a : Act} {w : World} {K : Act → World → Prop} {Q : Exit → Act → World → Prop} (x y z : Operand) (ho : op.op = Op.mapUpdate 74 x y z)
    (b : Nat) (l : List TSp) (p : TPt) (hp : PtOk p) (c : TMn) (hc : MnOk c) (hn : getC l p = none) (hx : a.eval x = .map (some b)) (hy : a.eval y = .agg (ptC p).toArray) (hz : a.eval z = .agg (mnL c).toArray) (hm : MapAt w b l)
    (hK : ∀ w', MapAt w' b (l ++ [⟨p, c⟩]) → w.grownBy w' (some b) → K (a.put op.dst undef) w') : op.wp Tryz.prog a w K Q := by
  obtain ⟨w', hrun, r1, r2⟩ := map_put hm p hp c hc hn
  unfold Oper.wp
  simp [execOp, ho, hx, hy, hz, hrun, Result.andThen]
  exact hK w' r1 r2
/-- The errors that a set tells. -/
structure EC (w : World) (E : Nat → Addr) : Prop where
  value : w.cell? ⟨2, 0, none⟩ = some (errV E 5)
  twice : w.cell? ⟨3, 0, none⟩ = some (errV E 6)
  missing : w.cell? ⟨5, 0, none⟩ = some (errV E 13)
theorem EC.of {w : World} {E : Nat → Addr} (h : Errs w E) : EC w E := ⟨(h.1 4 (by omega)).1, (h.1 5 (by omega)).1, (h.1 12 (by omega)).1⟩
theorem cell_below {w w' : World} {p : Addr} {v : Value} (h : w.cell? p = some v) (hb : Below w.heap.size w w') : w'.cell? p = some v := by
  rw [hb.cell (World.block_lt_of_cell? w _ h)]
  exact h
theorem EC.below {w w' : World} {E : Nat → Addr} (h : EC w E) (hb : Below w.heap.size w w') : EC w' E := ⟨cell_below h.value hb, cell_below h.twice hb, cell_below h.missing hb⟩
theorem getC_opt {l : List TSp} {p : TPt} (h : (getC l p).isSome = false) : getC l p = none := by
  cases hg : getC l p with
  | none => rfl
  | some c => rw [hg] at h; cases h
end Go.Proofs.YtckkcpplanfmhaaGreatDoor.Sha

/-
  The statements' own: the past behind a height. Nothing that was there turns. Conditions: the row of pasts lies in memory and is not empty.
-/
namespace Go.Proofs.YtckkcpplanfmhaaGreatDoor.Sha
open Go Go.RowKit
/-- A slice of 32-bit numbers. -/
def U32At (w : World) (v : Value) (l : List Nat) : Prop := ∃ sp cap, v = .slice sp l.length cap ∧ (0 < l.length → l.length ≤ cap ∧ ∃ b o, sp = some ⟨b, o, none⟩ ∧ ∀ (i x : Nat), l[i]? = some x → w.cell? ⟨b, o + i, none⟩ = some (.int .u32 (x : Int)))
def behI (l : List Nat) (height : Int) : Nat := min (max (height - 1) 0).toNat (l.length - 1)
set_option maxHeartbeats 1000000 in
set_option maxRecDepth 100000 in
theorem rbehind_any (w : World) (v : Value) (l : List Nat) (height : Int) (h : U32At w v l) (h0 : 0 < l.length) (hm : l.length ≤ 1000000) (h1 : -1000000 ≤ height) (h2 : height ≤ 1000000) :
    Calls Tryz.prog 40 #[v, .int .i64 height] w fun e w' => e = .returned (.int .u32 (l.getD (behI l height) 0 : Int)) ∧ w = w' := by
  obtain ⟨sp, cap, rfl, hs⟩ := h
  obtain ⟨hc, b, o, rfl, hg⟩ := hs h0
  have hbi : behI l height < l.length := by unfold behI; omega
  obtain ⟨x, hx⟩ : ∃ x, l[behI l height]? = some x := ⟨_, List.getElem?_eq_getElem hbi⟩
  have cx := hg _ x hx
  have AE : Hid (l.getD (behI l height) 0 = x) := by show _ = _; rw [List.getD_eq_getElem?_getD, hx]; rfl
  have IE : Hid ((behI l height : Int) = min (max (height - 1) 0) ((l.length : Int) - 1)) := by show _ = _; unfold behI; omega
  rw [AE.out]
  obtain ⟨i, hi⟩ : ∃ i, i = behI l height := ⟨_, rfl⟩
  rw [← hi] at cx hbi IE
  obtain ⟨n, hn⟩ : ∃ n, n = l.length := ⟨_, rfl⟩
  rw [← hn] at hbi IE hc h0 hm ⊢
  have hwr : IntKind.i64.wrap (height - 1) = height - 1 := by rw [IntKind.wrap_i64]; omega
  have hwn : IntKind.i64.wrap ((n : Int) - 1) = (n : Int) - 1 := by rw [IntKind.wrap_i64]; omega
  have hin : (i : Int) < (n : Int) := by omega
  clear hg hx AE hs hi hn
  go_enter Tryz.func40, Tryz.ntmps40
  go_upto_region 2 with fail
  obtain ⟨k, hmk⟩ : ∃ k : Nat, max (height - 1) 0 = (k : Int) := ⟨(max (height - 1) 0).toNat, by omega⟩
  have hk : (if height - 1 < 0 then 0 else height - 1) = (k : Int) := by rw [← hmk]; split <;> omega
  first | rw [hk] | rw [hmk]
  have IE2 := IE.out
  rw [hmk] at IE2
  clear hk hmk hwr IE
  by_cases hkn : (k : Int) ≤ (n : Int) - 1
  · have e : i = k := by omega
    subst e
    have q1 : ¬ ((n : Int) - 1 < (i : Int)) := by omega
    have qm : min (i : Int) ((n : Int) - 1) = (i : Int) := by omega
    clear IE2
    go_wp2_with fail
    go_ret
    exact ⟨rfl, rfl⟩
  · have e : i = n - 1 := by omega
    have q1 : (n : Int) - 1 < (k : Int) := by omega
    have q2 : ¬ ((k : Int) < (n : Int) - 1) := by omega
    have e2 : ((n : Int) - 1) = (i : Int) := by omega
    have qm : min (k : Int) (i : Int) = (i : Int) := by omega
    rw [e2] at q1 q2 hwn
    clear IE2 e
    go_wp2_with fail
    go_ret
    exact ⟨rfl, rfl⟩
end Go.Proofs.YtckkcpplanfmhaaGreatDoor.Sha

/-
  A Reader's Num, Four, Eight, Bytes and Hash answer what the chapter says, and leave what it says. Conditions: the Reader stands as it should; the three errors are there.
-/
namespace Go.Proofs.YtckkcpplanfmhaaGreatDoor.Sha
open Go Go.RowKit
/-- The three errors, none of them at block r. -/
def ErR (w : World) (E : Nat → Addr) (r : Nat) : Prop := Er w E ∧ 15 ≠ r ∧ 0 ≠ r ∧ 11 ≠ r
theorem ErR.grown {w w' : World} {E : Nat → Addr} {r : Nat} (h : ErR w E r) (hg : w.grownBy w' (some r)) : ErR w' E r := by
  obtain ⟨⟨a, b, c⟩, p, q, s⟩ := h
  exact ⟨⟨hg.cell a (fun e => p (Option.some.inj e)), hg.cell b (fun e => q (Option.some.inj e)), hg.cell c (fun e => s (Option.some.inj e))⟩, p, q, s⟩
theorem ErR.below {w w' : World} {E : Nat → Addr} {r : Nat} (h : ErR w E r) (hb : Below w.heap.size w w') : ErR w' E r := ⟨h.1.below hb, h.2⟩
/-- What Num answers, leaves and meets. -/
def numL (most : Nat) (bs : List UInt8) (c : Nat) : Nat × List UInt8 × Nat :=
  let t := takeL 1 bs c
  let k := widN (leN t.1)
  let u := if k = 0 then t else takeL k t.2.1 t.2.2
  if u.2.2 ≠ 0 then (0, u.2.1, u.2.2) else if lenN (leN u.1) ≠ 1 + k then (0, u.2.1, 2) else if most < leN u.1 then (0, u.2.1, 4) else (leN u.1, u.2.1, 0)
end Go.Proofs.YtckkcpplanfmhaaGreatDoor.Sha

/-
  A Reader's Hash answers the next 32 bytes, or no digest, and leaves what the chapter says. Conditions: the Reader stands as it should; the three errors are there.
-/
namespace Go.Proofs.YtckkcpplanfmhaaGreatDoor.Sha
open Go Go.RowKit
/-- Bytes filled up to a digest's 32. -/
def padH (x : List UInt8) : List UInt8 := x ++ List.replicate (32 - x.length) 0
end Go.Proofs.YtckkcpplanfmhaaGreatDoor.Sha

/-
  Plain mathematics of readers of bytes, one behind the other: what was written is read again; cut off it ends too early; what is read has just these bytes. No conditions beyond those that each states.
-/
namespace Go.Proofs.YtckkcpplanfmhaaGreatDoor.Sha
open Go Go.RowKit
/-- A reader of bytes: what it answers, what it leaves, what it met. -/
abbrev Par (α : Type) := List UInt8 → Nat → α × List UInt8 × Nat
def thenP {α β : Type} (p : Par α) (q : α → Par β) : Par β := fun bs c => q (p bs c).1 (p bs c).2.1 (p bs c).2.2
def mapP {α β : Type} (f : α → β) (p : Par α) : Par β := fun bs c => (f (p bs c).1, (p bs c).2)
def manyP {α : Type} (p : Par α) : Nat → Par (List α)
  | 0, bs, c => ([], bs, c)
  | n + 1, bs, c => if c ≠ 0 then ([], bs, c) else thenP p (fun a => mapP (a :: ·) (manyP p n)) bs c
/-- Bytes that it reads whole, whatever stands behind; cut off, they end too early. -/
def Good {α : Type} (p : Par α) (a : α) (x : List UInt8) : Prop := (∀ y, p (x ++ y) 0 = (a, y, 0)) ∧ ∀ k, k < x.length → (p (x.take k) 0).2.2 = 1
/-- An error stays. -/
def Stay {α : Type} (p : Par α) : Prop := ∀ bs c, c ≠ 0 → (p bs c).2.2 = c
/-- What is read stands so to the bytes that it was read from. -/
def BackR {α : Type} (p : Par α) (R : α → List UInt8 → Prop) : Prop := ∀ bs a r, p bs 0 = (a, r, 0) → ∃ x, bs = x ++ r ∧ R a x
section
variable {α β : Type} {p : Par α} {q : α → Par β} {a : α} {b : β} {x y : List UInt8}
theorem Good.andThen (h1 : Good p a x) (h2 : Good (q a) b y) (hs : ∀ a, Stay (q a)) : Good (thenP p q) b (x ++ y) := by
  refine ⟨fun z => ?_, fun k hk => ?_⟩
  · unfold thenP
    rw [List.append_assoc, h1.1]
    exact h2.1 z
  · by_cases h : k < x.length
    · rw [List.take_append_of_le_length (by omega)]
      unfold thenP
      rw [h1.2 k h]
      exact hs _ _ 1 (by omega)
    · rw [List.take_append, List.take_of_length_le (by omega)]
      unfold thenP
      rw [h1.1]
      exact h2.2 (k - x.length) (by rw [List.length_append] at hk; omega)
theorem Good.map (f : α → β) (h : Good p a x) : Good (mapP f p) (f a) x :=
  ⟨fun z => by unfold mapP; rw [h.1], fun k hk => h.2 k hk⟩
theorem Stay.andThen (h1 : Stay p) (h2 : ∀ a, Stay (q a)) : Stay (thenP p q) := fun bs c hc => by
  unfold thenP
  have e := h1 bs c hc
  rw [h2 _ _ _ (by rw [e]; exact hc), e]
theorem Stay.map (f : α → β) (h : Stay p) : Stay (mapP f p) := fun bs c hc => h bs c hc
theorem BackR.andThen {R : α → List UInt8 → Prop} {S : α → β → List UInt8 → Prop} (h1 : BackR p R) (h2 : ∀ a, BackR (q a) (S a)) (hs : ∀ a, Stay (q a)) : BackR (thenP p q) (fun b z => ∃ a x y, z = x ++ y ∧ R a x ∧ S a b y) := by
  intro bs b r h
  unfold thenP at h
  have hc : (p bs 0).2.2 = 0 := by
    by_cases h0 : (p bs 0).2.2 = 0
    · exact h0
    · have e := hs (p bs 0).1 (p bs 0).2.1 (p bs 0).2.2 h0
      rw [h] at e
      exact e.symm
  rw [hc] at h
  obtain ⟨x, e1, r1⟩ := h1 bs (p bs 0).1 (p bs 0).2.1 (Prod.ext rfl (Prod.ext rfl hc))
  obtain ⟨y, e2, r2⟩ := h2 _ _ _ _ h
  exact ⟨x ++ y, by rw [List.append_assoc, ← e2]; exact e1, _, x, y, rfl, r1, r2⟩
theorem BackR.map {R : α → List UInt8 → Prop} (f : α → β) (h : BackR p R) : BackR (mapP f p) (fun b z => ∃ a, b = f a ∧ R a z) := by
  intro bs b r h1
  unfold mapP at h1
  simp only [Prod.mk.injEq] at h1
  obtain ⟨x, e, hr⟩ := h bs (p bs 0).1 r (by rw [← h1.2])
  exact ⟨x, e, _, h1.1.symm, hr⟩
end
/-- So many bytes as a number. -/
def leP (k : Nat) : Par Nat := mapP leN (takeL k)
end Go.Proofs.YtckkcpplanfmhaaGreatDoor.Sha

/-
  Plain mathematics of a transaction read out of bytes: an input, an output, the whole; all that is in the bytes, and what is amiss. No conditions beyond those that each states.
-/
namespace Go.Proofs.YtckkcpplanfmhaaGreatDoor.Sha
open Go Go.RowKit
def inP : Par TIn := thenP (takeL 32) fun h => thenP (leP 4) fun n => thenP (numL 80) fun k => thenP (takeL k) fun key => mapP (fun s => ⟨padH h, n, key, s⟩) (leP 4)
def outP : Par TOut := thenP (leP 8) fun v => mapP (fun h => ⟨v, padH h⟩) (takeL 32)
def txP : Par TTx := thenP (leP 4) fun v => thenP (numL 50) fun n => thenP (manyP inP n) fun is => thenP (numL 50) fun m => thenP (manyP outP m) fun os => mapP (fun t => ⟨v, is, os, t⟩) (leP 4)
def noTx : TTx := ⟨0, [], [], 0⟩
/-- A transaction out of a Reader: none where an error was met. -/
def takeTx (bs : List UInt8) (c : Nat) : TTx × List UInt8 × Nat := if (txP bs c).2.2 = 0 then txP bs c else (noTx, (txP bs c).2)
/-- Bytes as a transaction, or what is amiss. -/
def readTx (bs : List UInt8) : TTx × Nat := if (txP bs 0).2.2 ≠ 0 then (noTx, (txP bs 0).2.2) else if (txP bs 0).2.1 ≠ [] then (noTx, 2) else ((txP bs 0).1, 0)
end Go.Proofs.YtckkcpplanfmhaaGreatDoor.Sha

/-
  Plain mathematics of so many things read one behind the other, whether or not an error was met between: they leave and meet what those do that stop at the first error. No conditions.
-/
namespace Go.Proofs.YtckkcpplanfmhaaGreatDoor.Sha
open Go Go.RowKit
section
variable {α β : Type} {p q : Par α}
/-- Behind an error nothing is read. -/
def Still (p : Par α) : Prop := ∀ bs c, c ≠ 0 → (p bs c).2 = (bs, c)
theorem Still.andThen {f : α → Par β} (h1 : Still p) (h2 : ∀ a, Still (f a)) : Still (thenP p f) := fun bs c hc => by
  have e := h1 bs c hc
  unfold thenP
  rw [e]
  exact h2 _ bs c hc
theorem Still.map (f : α → β) (h : Still p) : Still (mapP f p) := fun bs c hc => h bs c hc
/-- Two that leave and meet the same, and are the same where nothing is met. -/
def Sim (p q : Par α) : Prop := ∀ bs c, (p bs c).2 = (q bs c).2 ∧ ((p bs c).2.2 = 0 → p bs c = q bs c)
theorem Sim.refl (p : Par α) : Sim p p := fun _ _ => ⟨rfl, fun _ => rfl⟩
theorem Sim.andThen {f g : α → Par β} (h1 : Sim p q) (h2 : ∀ a, Sim (f a) (g a)) (s1 : ∀ a, Still (f a)) (s2 : ∀ a, Still (g a)) : Sim (thenP p f) (thenP q g) := fun bs c => by
  obtain ⟨e1, e2⟩ := h1 bs c
  unfold thenP
  by_cases hd : (p bs c).2.2 = 0
  · have e := e2 hd
    rw [← e]
    exact h2 _ _ _
  · rw [← e1]
    have a1 := s1 (p bs c).1 (p bs c).2.1 (p bs c).2.2 hd
    have a2 := s2 (q bs c).1 (p bs c).2.1 (p bs c).2.2 hd
    exact ⟨a1.trans a2.symm, fun h0 => by rw [a1] at h0; exact absurd h0 hd⟩
theorem Sim.map (f : α → β) (h : Sim p q) : Sim (mapP f p) (mapP f q) := fun bs c => by
  obtain ⟨e1, e2⟩ := h bs c
  unfold mapP
  exact ⟨e1, fun h0 => by rw [e2 h0]⟩
end
/-- What is left is no longer than what was there. -/
def Less {α : Type} (p : Par α) : Prop := ∀ bs c, (p bs c).2.1.length ≤ bs.length
theorem Less.andThen {α β : Type} {p : Par α} {f : α → Par β} (h1 : Less p) (h2 : ∀ a, Less (f a)) : Less (thenP p f) := fun bs c => Nat.le_trans (h2 _ _ _) (h1 bs c)
theorem Less.map {α β : Type} {p : Par α} (f : α → β) (h : Less p) : Less (mapP f p) := h
end Go.Proofs.YtckkcpplanfmhaaGreatDoor.Sha

/-
  Package tx takes an input, and an output, from a Reader. Nothing that was there turns but the Reader. Conditions: the Reader stands as it should; the errors are there.
-/
namespace Go.Proofs.YtckkcpplanfmhaaGreatDoor.Sha
open Go Go.RowKit
theorem one_mem {v : Value} (h : v.oneCell' = true) : ∀ u ∈ [v], u.oneCell' = true := fun u hu => by rw [List.mem_singleton.1 hu]; exact h
end Go.Proofs.YtckkcpplanfmhaaGreatDoor.Sha

/-
  Loads and appends of structures where a region draws its order; rows that stay where others grow. No conditions beyond those that each states.
-/
namespace Go.Proofs.YtckkcpplanfmhaaGreatDoor.Sha
open Go Go.RowKit
section
variable {P : Program}
theorem wp_append_row (w : World) {o : Oper} {a : Act} {K : Act → World → Prop} {Q : Exit → Act → World → Prop} (s x : Operand) (t : TypeId)
    (ho : o.op = Op.call { callee := Callee.builtin Builtin.append, args := #[s, x], argTypes := #[t, t] })
    (base : Nat) (e : TypeId) (i : TypeInfo) (z : Value) (size bytes : Nat) (ht : P.underlying t = some (.slice e)) (hi : P.info? e = some i) (hz : i.zero = some z)
    (hsize : i.size = size) (hby : i.bytes = bytes) (hzs : z.cells.size = size) (hsz : 0 < size)
    (v : Value) (n : Nat) (xs : List Value) (hs : a.eval s = v) (hown : w.ownsRow base e size v n xs)
    (ad : Addr) (m c : Nat) (news : List Value) (hx : a.eval x = .slice (some ad) m c) (hl : news.length = m * size) (hnews : ∀ j u, news[j]? = some u → w.cell? (ad.add j) = some u) (h1 : ∀ u ∈ news, u.oneCell' = true)
    (h63 : n + m ≤ maxLen) (hbytes : (n + m) * bytes ≤ 140737488355328) (hbase : base ≤ w.heap.size)
    (h : ∀ v' w', w'.ownsRow base e size v' (n + m) (xs ++ news) → w.grownBy w' v.ownBlock → (v'.ownBlock = v.ownBlock ∨ v'.ownBlock = some w.heap.size) → K (a.put o.dst v') w') : o.wp P a w K Q := by
  obtain ⟨v', w', hr, h2, h3, _, h5⟩ := run_append_own_at (P := P) w base t o.type e i z size bytes ht hi hz hsize hby hzs hsz v n xs hown ad m c news hl hnews h1 h63 hbytes hbase
  unfold Oper.wp execOp
  simp only [ho, resolve, invoke, builtin, Sem.run_bind, Sem.run_pure, Result.andThen_ok, List.map_toArray, List.map_cons, List.map_nil, hs, hx, hr]
  exact h v' w' h2 h3 h5
end
/-- All of a row's memory lies below. -/
def InsLow (B : Nat) (v : Value) (ks : List Value) : Prop := ∀ j, B ≤ j → v.ownBlock ≠ some j ∧ ∀ (i : Nat) kv, ks[i]? = some kv → Off kv (some j)
theorem InsOwn.low {base : Nat} {w : World} {v : Value} {l : List TIn} {ks : List Value} (h : InsOwn base w v l ks) : InsLow w.heap.size v ks := fun j hj => by
  refine ⟨fun e => ?_, fun i kv hk => ?_⟩
  · have := (h.2.1.lt j e).2
    omega
  · obtain ⟨x, hx⟩ : ∃ x, l[i]? = some x := ⟨_, List.getElem?_eq_getElem (by have := (List.getElem?_eq_some_iff.1 hk).1; have := h.1; omega)⟩
    exact (h.2.2.2 i x kv hx hk).1.fresh hj
end Go.Proofs.YtckkcpplanfmhaaGreatDoor.Sha

/-
  Parts of a slice of elements of any size; a literal in a region that draws its order. No conditions beyond those that each states.
-/
namespace Go.Proofs.YtckkcpplanfmhaaGreatDoor.Sha
open Go Go.RowKit
theorem run_cutS_h {P : Program} {w : World} (t e : TypeId) (s : Nat) (sp : Option Addr) (n cap r : Nat) (hu : P.underlying t = some (.slice e)) (hsz : (P.info? e).map (·.size) = some s) (h2 : r ≤ cap) :
    (Instr.sliceAt t (.slice sp n cap) none (some (.int .i64 r)) none).run P w = .ok (sliced sp 0 r cap s) w := by
  obtain ⟨i, hi, hs⟩ := Option.map_eq_some_iff.1 hsz
  have hu' : P.underlying t = some (.slice (P.elem t)) := by rw [elem_of hu]; exact hu
  rw [run_sliceAt_slice _ _ _ _ _ _ hu', run_slice_h _ _ _ _ _ hu' _ _ (by omega) (by omega), elem_of hu]
  simp [sizeOf, typeInfo, hi, hs, sliced, go_sem]
theorem run_cutS_l {P : Program} {w : World} (t e : TypeId) (s : Nat) (sp : Option Addr) (n cap l : Nat) (hu : P.underlying t = some (.slice e)) (hsz : (P.info? e).map (·.size) = some s) (h1 : l ≤ n) :
    (Instr.sliceAt t (.slice sp n cap) (some (.int .i64 l)) none none).run P w = .ok (sliced sp l n cap s) w := by
  obtain ⟨i, hi, hs⟩ := Option.map_eq_some_iff.1 hsz
  have hu' : P.underlying t = some (.slice (P.elem t)) := by rw [elem_of hu]; exact hu
  rw [run_sliceAt_slice _ _ _ _ _ _ hu', run_slice_l _ _ _ _ _ hu' _ _ (by omega) (by omega), elem_of hu]
  simp [sizeOf, typeInfo, hi, hs, sliced, go_sem]
section
variable {P : Program} {w : World} {ops : Array Oper} {rest : List Oper} {o : Oper} {a : Act} {Q : Exit → Act → World → Prop}
theorem wpList_cutS_l (hgd : o.guard = none) (t : TypeId) (x lo : Operand) (ho : o.op = .slice t x (some lo) none none) (e : TypeId) (s : Nat) (hu : P.underlying t = some (.slice e)) (hsz : (P.info? e).map (·.size) = some s)
    (sp : Option Addr) (n cap : Nat) (l : Nat) (hx : a.eval x = .slice sp n cap) (hl : a.eval lo = .int .i64 l) (h1 : l ≤ n)
    (h : ∀ v, Hid (v = sliced sp l n cap s) → wpList P ops Q rest (a.put o.dst v) w) : wpList P ops Q (o :: rest) a w := by
  refine wpList_plain hgd fun K hK => ?_
  unfold Oper.wp
  simp [execOp, ho, hx, hl, run_cutS_l (w := w) t e s sp n cap l hu hsz h1, Result.andThen]
  exact hK _ _ (h _ rfl)
theorem yields_cutS_h {S : World → Prop} (hw : Region.wanted o (yielded ops a.tmps) = true) (t : TypeId) (x hi : Operand) (ho : o.op = .slice t x none (some hi) none) (e : TypeId) (s : Nat) (hu : P.underlying t = some (.slice e)) (hsz : (P.info? e).map (·.size) = some s)
    (sp : Option Addr) (n cap r : Nat) (v : Value) (hx : a.eval x = .slice sp n cap) (hr : a.eval hi = .int .i64 r) (h2 : r ≤ cap) (hv : v = sliced sp 0 r cap s) : YieldsIf P ops S o v a :=
  .inl ⟨hw, fun w _ => by simp [execOp, ho, hx, hr, run_cutS_h (w := w) t e s sp n cap r hu hsz h2, Result.andThen, hv]⟩
end
theorem yieldsIf_build {P : Program} {ops : Array Oper} {S : World → Prop} {op : Oper} {a : Act} (hw : Region.wanted op (yielded ops a.tmps) = true) (t : TypeId) (parts : Array (Nat × Operand)) (ho : op.op = .build t parts) (ps : List (Nat × Value)) (hps : (parts.map fun (i, x) => (i, a.eval x)).toList = ps) (cs : Array Value)
    (hf : P.built t ps = some cs) : YieldsIf P ops S op (.agg cs) a :=
  .inl ⟨hw, fun w _ => by
    unfold execOp
    subst hps
    simp only [ho, Sem.run_bind, run_build w t _ _ hf, Result.andThen_ok, Sem.run_pure]⟩
end Go.Proofs.YtckkcpplanfmhaaGreatDoor.Sha

/-
  A row put behind an own one, whatever stands in either. No conditions beyond those that each states.
-/
namespace Go.Proofs.YtckkcpplanfmhaaGreatDoor.Sha
open Go Go.RowKit
theorem RwAt.flat {k : Nat} {w : World} {b o : Nat} {L : List (List Value)} (ha : AllK k L) (h : ∀ i x, L[i]? = some x → w.rangeAt b (o + i * k) x) : w.rangeAt b o L.flatten := by
  intro j u hj
  have hjl := (List.getElem?_eq_some_iff.1 hj).1
  rw [flatten_length L ha] at hjl
  have hk : 0 < k := by
    rcases Nat.eq_zero_or_pos k with h0 | h0
    · rw [h0, Nat.mul_zero] at hjl; omega
    · exact h0
  have hq : j / k < L.length := Nat.div_lt_of_lt_mul (by rw [Nat.mul_comm]; exact hjl)
  obtain ⟨x, hx⟩ : ∃ x, L[j / k]? = some x := ⟨_, List.getElem?_eq_getElem hq⟩
  have hm := Nat.div_add_mod j k
  have hr := Nat.mod_lt j hk
  have h1 := flatten_get L (j / k) x ha hx (j % k) hr
  rw [Nat.mul_comm] at hm
  rw [hm, hj] at h1
  have h2 := h (j / k) x hx (j % k) u h1.symm
  rwa [Nat.add_assoc, hm] at h2
/-- A row put behind an own one, whatever stands in either. -/
theorem wp_append_rw (w : World) {op : Oper} {a : Act} {K : Act → World → Prop} {Q : Exit → Act → World → Prop} (s x : Operand) (t : TypeId)
    (hop : op.op = Op.call { callee := Callee.builtin Builtin.append, args := #[s, x], argTypes := #[t, t] })
    (base : Nat) (e : TypeId) (i : TypeInfo) (z : Value) (k bytes : Nat) (h1 : Tryz.prog.underlying t = some (.slice e)) (h2 : Tryz.prog.info? e = some i) (hz : i.zero = some z) (hk : i.size = k) (hb : i.bytes = bytes) (hzs : z.cells.size = k) (hk0 : 0 < k)
    (v : Value) (L : List (List Value)) (hs : a.eval s = v) (hown : RwOwn k e base w v L) (y : Value) (M : List (List Value)) (hx : a.eval x = y) (hsrc : RwAt k w y M) (hone : ∀ m ∈ M, ∀ u ∈ m, u.oneCell' = true)
    (hlen : (L.length + M.length) * bytes ≤ 140737488355328) (hmax : L.length + M.length ≤ maxLen) (hbase : base ≤ w.heap.size)
    (hK : ∀ v' w', RwOwn k e base w' v' (L ++ M) → w.grownBy w' v.ownBlock → K (a.put op.dst v') w') : op.wp Tryz.prog a w K Q := by
  obtain ⟨hM, sp, cap, rfl, hc, hr⟩ := hsrc
  cases M with
  | nil =>
    have hrun := run_append_any0 (P := Tryz.prog) (w := w) base t op.type e i h1 h2 v L.length L.flatten (by rw [hk]; exact hown.1) sp cap
    unfold Oper.wp
    simp [execOp, hop, resolve, invoke, builtin, hs, hx, hrun, Result.andThen]
    refine hK v w ?_ (grownBy_refl _ _)
    rw [List.append_nil]
    exact hown
  | cons m M =>
    obtain ⟨b, o, rfl, hr2⟩ := hr (by simp)
    have hf := RwAt.flat hM hr2
    obtain ⟨v', w', hrun, a1, a2, _, _⟩ := run_append_own_at (P := Tryz.prog) w base t op.type e i z k bytes h1 h2 hz hk hb hzs hk0 v L.length L.flatten hown.1 ⟨b, o, none⟩ (m :: M).length cap (m :: M).flatten (flatten_length _ hM)
      (fun j u hu => by rw [Addr.add_mid]; exact hf j u hu) (fun u hu => by
        obtain ⟨q, hq, hu⟩ := List.mem_flatten.1 hu
        exact hone q hq u hu) hmax hlen hbase
    unfold Oper.wp execOp
    simp only [hop, resolve, invoke, builtin, Sem.run_bind, Sem.run_pure, Result.andThen_ok, List.map_toArray, List.map_cons, List.map_nil, hs, hx, hrun]
    refine hK v' w' ⟨?_, fun q hq => ?_⟩ a2
    · rw [List.length_append, List.flatten_append]
      exact a1
    · rcases List.mem_append.1 hq with h | h
      · exact hown.2 q h
      · exact hM q h
theorem wpList_append_rw (w : World) {ops : Array Oper} {rest : List Oper} {op : Oper} {a : Act} {Q : Exit → Act → World → Prop} (hg : op.guard = none) (s x : Operand) (t : TypeId)
    (hop : op.op = Op.call { callee := Callee.builtin Builtin.append, args := #[s, x], argTypes := #[t, t] })
    (base : Nat) (e : TypeId) (i : TypeInfo) (z : Value) (k bytes : Nat) (h1 : Tryz.prog.underlying t = some (.slice e)) (h2 : Tryz.prog.info? e = some i) (hz : i.zero = some z) (hk : i.size = k) (hb : i.bytes = bytes) (hzs : z.cells.size = k) (hk0 : 0 < k)
    (v : Value) (L : List (List Value)) (hs : a.eval s = v) (hown : RwOwn k e base w v L) (y : Value) (M : List (List Value)) (hx : a.eval x = y) (hsrc : RwAt k w y M) (hone : ∀ m ∈ M, ∀ u ∈ m, u.oneCell' = true)
    (hlen : (L.length + M.length) * bytes ≤ 140737488355328) (hmax : L.length + M.length ≤ maxLen) (hbase : base ≤ w.heap.size)
    (hK : ∀ v' w', RwOwn k e base w' v' (L ++ M) → w.grownBy w' v.ownBlock → wpList Tryz.prog ops Q rest (a.put op.dst v') w') : wpList Tryz.prog ops Q (op :: rest) a w :=
  wpList_plain hg fun _ hK' => wp_append_rw w s x t hop base e i z k bytes h1 h2 hz hk hb hzs hk0 v L hs hown y M hx hsrc hone hlen hmax hbase fun v' w' q1 q2 => hK' _ _ (hK v' w' q1 q2)
end Go.Proofs.YtckkcpplanfmhaaGreatDoor.Sha

/-
  A coin is added to a set: its map turns, or is made. Conditions: the set lies where the pointer says; a place, a coin as the model has them; the errors are there.
-/
namespace Go.Proofs.YtckkcpplanfmhaaGreatDoor.Sha
open Go Go.RowKit
/-- What a set says to a coin more. -/
def addR (l : List TSp) (p : TPt) (k : TMn) : Nat := if 2100000000000000 < k.val then 5 else if (getC l p).isSome then 6 else 0
def addL (l : List TSp) (p : TPt) (k : TMn) : List TSp := if addR l p k = 0 then l ++ [⟨p, k⟩] else l
theorem Kps.trans' {F : Nat → Prop} {w w1 w2 : World} {q : Nat} (h : Kps F w w1) (k : Kps (fun j => j ≠ q) w1 w2) (hq : w.heap.size < q) : Kps F w w2 :=
  ⟨k.os.trans h.os, k.tape.trans h.tape, k.output.trans h.output, Nat.le_trans h.size k.size, fun j hj hf => (k.block j (Nat.lt_of_lt_of_le hj h.size) (by omega)).trans (h.block j hj hf)⟩
set_option maxHeartbeats 2000000 in
set_option maxRecDepth 100000 in
theorem setadd_any (E : Nat → Addr) (w : World) (a : Nat) (m : Option Nat) (l : List TSp) (p : TPt) (k : TMn) (hE : EC w E) (hs : SetAt w a m l) (hp : PtOk p) (hk : MnOk k) :
    Calls Tryz.prog 19 #[.pointer (some ⟨a, 0, none⟩), .agg (ptC p).toArray, .agg (mnL k).toArray] w fun e w' =>
      e = .returned (errV E (addR l p k)) ∧ ∃ m', SetAt w' a m' (addL l p k) ∧ (m' = m ∨ ∃ b, m' = some b ∧ w.heap.size ≤ b) ∧ Kps (fun j => j ≠ a ∧ m ≠ some j) w w' := by
  have HP := Lib.hid hp
  have HK := Lib.hid hk
  have HE := Lib.hid hE
  have KSZ : Hid ((mnL k).toArray.size = 35) := mnL_size hk
  have AR : Hid (addR l p k = if 2100000000000000 < k.val then 5 else if (getC l p).isSome then 6 else 0) := rfl
  have AL : Hid (addL l p k = if addR l p k = 0 then l ++ [⟨p, k⟩] else l) := rfl
  have GN : Hid ((getC l p).isSome = false → getC l p = none) := getC_opt
  obtain ⟨ck, hck⟩ : ∃ ck, ck = mnL k := ⟨_, rfl⟩
  rw [← hck] at KSZ ⊢
  obtain ⟨r, hr⟩ : ∃ r, r = addR l p k := ⟨_, rfl⟩
  obtain ⟨l', hl'⟩ : ∃ l', l' = addL l p k := ⟨_, rfl⟩
  rw [← hr] at AR AL
  rw [← hl'] at AL
  rw [← hr, ← hl']
  have CKK := Lib.hid hck
  clear hr hl' hck
  have HS := Lib.hid hs
  have PSZ : Hid ((ptC p).toArray.size = 33) := ptC_size hp
  have CK : Hid (MnOk ((getC l p).getD mnZ)) := getD_ok hs.map.ok p
  obtain ⟨c, hc⟩ : ∃ c, c = (getC l p).getD mnZ := ⟨_, rfl⟩
  obtain ⟨b, hb⟩ : ∃ b, b = (getC l p).isSome := ⟨_, rfl⟩
  rw [← hc] at CK
  have LK : Hid (∀ W, Below w.heap.size w W → (Instr.lookup 74 (.map m) (.agg (ptC p).toArray) true).run Tryz.prog W = .ok (.tuple #[.agg (mnL c).toArray, .bool b]) W) := fun W hW => by
    rw [hc, hb]
    exact map_look (hs.below hW).map p hp
  rw [← hb] at GN AR
  have CSZ : Hid ((mnL c).toArray.size = 35) := mnL_size CK.out
  have CLN : Hid ((mnL c).length = 35) := mnL_length CK.out
  have CONE : Hid ((mnL c).toArray.all (·.oneCell') = true) := mnL_all c
  obtain ⟨cm, hcm⟩ : ∃ cm, cm = mnL c := ⟨_, rfl⟩
  obtain ⟨cp, hcp⟩ : ∃ cp, cp = ptC p := ⟨_, rfl⟩
  rw [← hcm] at LK CSZ CLN CONE
  rw [← hcp] at LK PSZ ⊢
  have CP := Lib.hid hcp
  clear hE hk hs hp hc hb hcm hcp
  obtain ⟨z, hz⟩ : ∃ z, z = k.val := ⟨_, rfl⟩
  have ZV := Lib.hid hz
  rw [← hz] at AR
  have KC : Hid (∀ (W : World) (g : Nat), W.heap[g]? = some (.cells ck.toArray 46 (0, 0)) → W.cell? ⟨g, 0, none⟩ = some (.int .u64 (z : Int))) := fun W g h => by
    rw [cell_of_row _ _ _ _ _ _ h, CKK.out, hz]
    rfl
  clear hz
  go_enter Tryz.func19, Tryz.ntmps19
  go_upto_region 1 with fail
  have f3 := row_below (heap_alloc_new w (.cells cp.toArray 50 (0, 0))) ((Below.refl _ _).alloc (Nat.le_refl _) (.cells ck.toArray 46 (0, 0)))
  have f4 := heap_alloc_new (w.alloc (.cells cp.toArray 50 (0, 0))) (.cells ck.toArray 46 (0, 0))
  have b0 := ((Below.refl w.heap.size w).alloc (Nat.le_refl _) (.cells cp.toArray 50 (0, 0))).alloc (by simp) (.cells ck.toArray 46 (0, 0))
  rw [World.size_alloc] at f4
  generalize hw1 : World.alloc _ _ = w1
  have e1 : (w.alloc (.cells cp.toArray 50 (0, 0))).alloc (.cells ck.toArray 46 (0, 0)) = w1 := hw1
  rw [e1] at f3 f4 b0
  obtain ⟨g3, hg3⟩ : ∃ g3, g3 = w.heap.size := ⟨_, rfl⟩
  have G3 : Hid (w.heap.size ≤ g3) := by show _ ≤ _; rw [hg3]; exact Nat.le_refl _
  rw [← hg3] at f3 f4 ⊢
  have F3 := Lib.hid f3
  have F4 := Lib.hid f4
  have B0 := Lib.hid b0
  have HS1 := Lib.hid (HS.out.below b0)
  have LK1 : Hid (∀ W, Below w1.heap.size w1 W → (Instr.lookup 74 (.map m) (.agg cp.toArray) true).run Tryz.prog W = .ok (.tuple #[.agg cm.toArray, .bool b]) W) := fun W hW => LK.out W (B0.out.trans (hW.mono B0.out.size))
  have z0 := KC.out w1 _ f4
  have cv : w1.cell? ⟨2, 0, none⟩ = some (.iface 250 (.pointer (some (E 4)))) := (HE.out.below b0).value
  clear f3 f4 b0 hw1 e1 hg3
  by_cases hv : 2100000000000000 < z
  · have hv' : (2100000000000000 : Int) < (z : Int) := by omega
    have HV := Lib.hid hv
    clear hv
    go_wp2_with fail
    go_ret
    have er : r = 5 := by rw [AR.out, if_pos HV.out]
    have el : l' = l := by rw [AL.out, er]; rfl
    subst er el
    exact ⟨rfl, m, HS1.out, .inl rfl, Kps.new B0.out⟩
  · have hv' : ¬ (2100000000000000 : Int) < (z : Int) := by omega
    have HV := Lib.hid hv
    clear hv
    go_upto_region 3 with fail
    clear z0 cv hv'
    refine wp_region_held_drew (S := (fun w' => Below w1.heap.size w1 w')) (by kernel_rfl) (Below.drew (Below.refl _ _)) (fun hHeld => ?_)
    generalize hwd : w1.drew = wd at  hHeld ⊢
    clear hwd
    refine held_take (i := 0) (v := (.pointer (some ⟨a, 0, none⟩))) rfl (by kernel_rfl) (by kernel_rfl) (by kernel_rfl) (fun _ _ _ h => h) (Or.inl ⟨by rfl, fun w' _ => by kernel_rfl⟩) hHeld ?_
    go_frame
    refine held_take (i := 1) (v := (.pointer (some ⟨a, 0, none⟩))) rfl (by kernel_rfl) (by kernel_rfl) (by kernel_rfl) (fun _ _ _ h => h) (Or.inl ⟨by rfl, fun w' _ => by kernel_rfl⟩) hHeld ?_
    go_frame
    refine held_take (i := 2) (v := (.pointer (some ⟨a, 0, none⟩))) rfl (by kernel_rfl) (by kernel_rfl) (by kernel_rfl) (fun _ _ _ h => h) (Or.inl ⟨by rfl, fun w' _ => by kernel_rfl⟩) hHeld ?_
    go_frame
    refine held_take (i := 3) (v := (.map m)) rfl (by kernel_rfl) (by kernel_rfl) (by kernel_rfl) (fun _ _ _ h => h) (yieldsIf_load_one (by rfl) 74 (.tmp 16) rfl a (0) rfl _ _ (fun w' hw' => (HS1.out.below hw').cell) Tryz.underlying74 rfl) hHeld ?_
    go_frame
    refine held_take (i := 4) (v := (.agg cp.toArray)) rfl (by kernel_rfl) (by kernel_rfl) (by kernel_rfl) (fun _ _ _ h => h) (yieldsIf_load_row (by rfl) 50 (.tmp 4) rfl g3 rfl 50 cp.toArray (0, 0) _ (fun w' hw' => row_below F3.out hw') Tryz.underlying50 rfl (by rw [PSZ.out]; kernel_rfl)) hHeld ?_
    go_frame
    refine held_take (i := 5) (v := (.tuple #[.agg cm.toArray, .bool b])) rfl (by kernel_rfl) (by kernel_rfl) (by kernel_rfl) (fun _ _ _ h => h) (yieldsIf_lookup (by rfl) 74 (.tmp 17) (.tmp 18) true rfl _ _ _ rfl rfl (fun w' hw' => LK1.out w' hw')) hHeld ?_
    go_frame
    refine held_take (i := 6) (v := (.tuple #[.agg cm.toArray, .bool b])) rfl (by kernel_rfl) (by kernel_rfl) (by kernel_rfl) (fun _ _ _ h => h) (Or.inl ⟨by rfl, fun w' _ => by kernel_rfl⟩) hHeld ?_
    go_frame
    refine held_take (i := 7) (v := (.agg cm.toArray)) rfl (by kernel_rfl) (by kernel_rfl) (by kernel_rfl) (fun _ _ _ h => h) (Or.inl ⟨by rfl, fun w' _ => by kernel_rfl⟩) hHeld ?_
    go_frame
    refine held_take (i := 8) (v := (.bool b)) rfl (by kernel_rfl) (by kernel_rfl) (by kernel_rfl) (fun _ _ _ h => h) (Or.inl ⟨by rfl, fun w' _ => by kernel_rfl⟩) hHeld ?_
    go_frame
    refine wpAnyH_ready (rs := [9]) (by kernel_rfl) (by simp) (held_cons rfl (fun K hK => ?_) AllReadyH.nil)
    go_simp
    have nf := heap_alloc_new wd (.cells (mnL mnZ).toArray 46 (0, 0))
    have bb := (Below.refl wd.heap.size wd).alloc (Nat.le_refl _) (.cells (mnL mnZ).toArray 46 (0, 0))
    obtain ⟨gv1, hgv1⟩ : ∃ g, g = wd.heap.size := ⟨_, rfl⟩
    have GF6 : Hid (w1.heap.size ≤ gv1) := by show _ ≤ _; rw [hgv1]; exact hHeld.size
    generalize hqv1 : World.alloc _ _ = v1
    have ev1 : wd.alloc (.cells (mnL mnZ).toArray 46 (0, 0)) = v1 := hqv1
    rw [ev1] at nf bb
    rw [← hgv1] at nf ⊢
    have F6 := Lib.hid nf
    have hv1 := hHeld.trans (bb.mono hHeld.size)
    clear nf bb hqv1 ev1 hgv1 hHeld
    refine hK.out _ _ hv1 (fun hHeld => ?_)
    clear hK K hv1
    refine wpAnyH_ready (rs := [10]) (by kernel_rfl) (by simp) (held_cons rfl (fun K hK => ?_) AllReadyH.nil)
    rw [if_pos (by rfl)]
    refine wp_store_whole 46 (.tmp 7) (.tmp 20) rfl gv1 (mnL mnZ) cm 46 rfl rfl (by rw [mnL_length mnZ_ok, CLN.out]) F6.out (by rw [CLN.out]; kernel_rfl) (CONE.out) ?_
    intro v2 q1 q2
    have F6 := Lib.hid q1
    have hv2 := hHeld.grown q2 hHeld.size (fun k hk => by cases hk; exact GF6.out)
    clear q1 q2 hHeld
    go_frame
    refine hK.out _ _ hv2 (fun hHeld => ?_)
    clear hK K hv2
    refine held_take (i := 11) (v := (.bool b)) rfl (by kernel_rfl) (by kernel_rfl) (by kernel_rfl) (fun _ _ _ h => h) (Or.inl ⟨by rfl, fun w' _ => by kernel_rfl⟩) hHeld ?_
    go_frame
    refine wpAnyH_done (by kernel_rfl) ?_ _
    obtain ⟨v9, hv9⟩ : ∃ v9, v9 = v2 := ⟨_, rfl⟩
    rw [← hv9] at F6 hHeld ⊢
    clear hv9
    have B1 := Lib.hid (B0.out.trans (hHeld.mono B0.out.size))
    have F4 := Lib.hid (row_below F4.out hHeld)
    have F3 := Lib.hid (row_below F3.out hHeld)
    have HS2 := Lib.hid (HS1.out.below hHeld)
    clear hHeld
    cases b with
    | true =>
      have ct : v9.cell? ⟨3, 0, none⟩ = some (.iface 250 (.pointer (some (E 5)))) := (HE.out.below B1.out).twice
      go_wp2_with fail
      go_ret
      have er : r = 6 := by rw [AR.out, if_neg HV.out]; rfl
      have el : l' = l := by rw [AL.out, er]; rfl
      subst er el
      exact ⟨rfl, m, HS2.out, .inl rfl, Kps.new B1.out⟩
    | false =>
      have er : r = 0 := by rw [AR.out, if_neg HV.out]; rfl
      have el : l' = l ++ [⟨p, k⟩] := by rw [AL.out, er]; rfl
      subst er el
      have AL2 : Hid (a < w.heap.size) := (Array.getElem?_eq_some_iff.1 HS.out.box).1
      have GS : Hid (w.heap.size < v9.heap.size) := Nat.lt_of_le_of_lt G3.out (Array.getElem?_eq_some_iff.1 F3.out).1
      have cb := HS2.out.cell
      have qn : ∀ (W : World) (q : Option Nat), (binOp .eql 74 (.map q) (.map none)).run Tryz.prog W = .ok (.bool q.isNone) W := fun W q => run_eql_map_nil W _ _ _ q map_under
      cases m with
      | some q =>
        have QL : Hid (q < w.heap.size) := HS.out.map.lt q rfl
        have AQ : Hid (a ≠ q) := fun e => HS2.out.ne (by rw [e])
        have Q3 : Hid (g3 ≠ q) := by have := QL.out; have := G3.out; show g3 ≠ q; omega
        have Q4 : Hid (g3 + 1 ≠ q) := by have := QL.out; have := G3.out; show g3 + 1 ≠ q; omega
        have MA : Hid (MapAt v9 q l) := HS2.out.map
        have BX := Lib.hid HS2.out.box
        have K0 : Hid (Kps (fun j => j ≠ a ∧ some q ≠ some j) w v9) := Kps.new B1.out
        go_upto_region 8 with fail
        clear cb qn
        refine wp_region_held_drew (S := (fun w' => Kps (fun j => j ≠ q) v9 w')) (by kernel_rfl) (Kps.new (Below.drew (Below.refl _ _))) (fun hHeld => ?_)
        have MA := Lib.hid (MA.out.kps (F := fun _ => True) (Kps.new (Below.drew (Below.refl _ _))) trivial)
        generalize hwd : v9.drew = wd at MA hHeld ⊢
        clear hwd
        refine held_take (i := 0) (v := (.pointer (some ⟨a, 0, none⟩))) rfl (by kernel_rfl) (by kernel_rfl) (by kernel_rfl) (fun _ _ _ h => h) (Or.inl ⟨by rfl, fun w' _ => by kernel_rfl⟩) hHeld ?_
        go_frame
        refine held_take (i := 1) (v := (.pointer (some ⟨a, 0, none⟩))) rfl (by kernel_rfl) (by kernel_rfl) (by kernel_rfl) (fun _ _ _ h => h) (Or.inl ⟨by rfl, fun w' _ => by kernel_rfl⟩) hHeld ?_
        go_frame
        refine held_take (i := 2) (v := (.pointer (some ⟨a, 0, none⟩))) rfl (by kernel_rfl) (by kernel_rfl) (by kernel_rfl) (fun _ _ _ h => h) (Or.inl ⟨by rfl, fun w' _ => by kernel_rfl⟩) hHeld ?_
        go_frame
        refine held_take (i := 3) (v := (.map (some q))) rfl (by kernel_rfl) (by kernel_rfl) (by kernel_rfl) (fun _ _ _ h => h) (yieldsIf_load_one (by rfl) 74 (.tmp 35) rfl a (0) rfl _ _ (fun w' hw' => by rw [cell_of_row _ _ _ _ _ _ (row_kps BX.out hw' AQ.out)]; rfl) Tryz.underlying74 rfl) hHeld ?_
        go_frame
        refine held_take (i := 4) (v := (.agg cp.toArray)) rfl (by kernel_rfl) (by kernel_rfl) (by kernel_rfl) (fun _ _ _ h => h) (yieldsIf_load_row (by rfl) 50 (.tmp 4) rfl g3 rfl 50 cp.toArray (0, 0) _ (fun w' hw' => row_kps F3.out hw' Q3.out) Tryz.underlying50 rfl (by rw [PSZ.out]; kernel_rfl)) hHeld ?_
        go_frame
        refine held_take (i := 5) (v := (.agg ck.toArray)) rfl (by kernel_rfl) (by kernel_rfl) (by kernel_rfl) (fun _ _ _ h => h) (yieldsIf_load_row (by rfl) 46 (.tmp 5) rfl (g3 + 1) rfl 46 ck.toArray (0, 0) _ (fun w' hw' => row_kps F4.out hw' Q4.out) Tryz.underlying46 rfl (by rw [KSZ.out]; kernel_rfl)) hHeld ?_
        go_frame
        refine wpAnyH_ready (rs := [6]) (by kernel_rfl) (by simp) (held_cons rfl (fun K hK => ?_) AllReadyH.nil)
        rw [if_pos (by rfl)]
        refine wp_put_cn (.tmp 36) (.tmp 37) (.tmp 38) rfl q l p HP.out k HK.out (GN.out rfl) rfl (by rw [← CP.out]; rfl) (by rw [← CKK.out]; rfl) MA.out ?_
        intro v1 q1 q2
        have MB := Lib.hid q1
        have hv1 : Kps (fun j => j ≠ q) v9 v1 := hHeld.trans (Kps.grown q2 fun j _ hj e => hj (Option.some.inj e))
        clear q1 q2 hHeld MA
        go_frame
        refine hK.out _ _ hv1 (fun hHeld => ?_)
        clear hK K hv1
        refine wpAnyH_done (by kernel_rfl) ?_ _
        have BY := Lib.hid (row_kps BX.out hHeld AQ.out)
        have HH := Lib.hid hHeld
        clear hHeld
        go_wp2_with fail
        go_ret
        exact ⟨rfl, some q, ⟨BY.out, MB.out⟩, .inl rfl, (Kps.new B1.out).trans (HH.out.mono fun j _ hj e => hj.2 (by rw [e]))⟩
      | none =>
        obtain rfl : l = [] := HS.out.map
        have hmm := @run_makeMap Tryz.prog
        have bx := row_below HS2.out.box ((Below.refl _ _).alloc (Nat.le_refl _) (.map #[] 0))
        have ma := map_made v9
        have b9 := (Below.refl v9.heap.size v9).alloc (Nat.le_refl _) (.map #[] 0)
        have BX0 := Lib.hid bx
        have MA0 := Lib.hid ma
        have B9 := Lib.hid b9
        clear bx ma b9
        go_upto_region 8 with ((with_reducible show wpList _ _ _ _ _ _); refine wpList_store_part rfl 74 (.tmp 32) (.tmp 30) rfl a 0 [] [.map none] [] [.map (some v9.heap.size)] 76 (.map (some v9.heap.size)) rfl rfl rfl rfl rfl BX0.out (by kernel_rfl) (by simp [Value.oneCell']) ?_; intro w5 q1 q2; have Q1 := Lib.hid q1; have Q2 := Lib.hid q2; clear q1 q2; go_frame)
        clear cb qn hmm
        obtain ⟨q, hq⟩ : ∃ q, q = v9.heap.size := ⟨_, rfl⟩
        rw [← hq] at Q1 MA0
        have QL : Hid (w.heap.size < q) := by show _ < _; rw [hq]; exact GS.out
        have AQ : Hid (a ≠ q) := by have := AL2.out; have := QL.out; show a ≠ q; omega
        have Q3 : Hid (g3 ≠ q) := by have := (Array.getElem?_eq_some_iff.1 F3.out).1; show g3 ≠ q; omega
        have Q4 : Hid (g3 + 1 ≠ q) := by have := (Array.getElem?_eq_some_iff.1 F4.out).1; show g3 + 1 ≠ q; omega
        have KA : Hid (Kps (fun j => j ≠ a) v9 w5) := (Kps.new B9.out).trans (Kps.grown Q2.out fun j _ hj e => hj (Option.some.inj e))
        have MA : Hid (MapAt w5 q []) := MA0.out.kps (F := fun j => j ≠ a) (Kps.grown Q2.out fun j _ hj e => hj (Option.some.inj e)) (fun e => AQ.out e.symm)
        have BX : Hid (w5.heap[a]? = some (.cells #[.map (some q)] 76 (0, 0))) := Q1.out
        have F3 := Lib.hid (row_kps F3.out KA.out (by have := AL2.out; have := G3.out; show g3 ≠ a; omega))
        have F4 := Lib.hid (row_kps F4.out KA.out (by have := AL2.out; have := G3.out; show g3 + 1 ≠ a; omega))
        have V5 : Hid (w.heap.size ≤ v9.heap.size) := Nat.le_of_lt GS.out
        clear hq Q1 Q2 BX0 MA0
        refine wp_region_held_drew (S := (fun w' => Kps (fun j => j ≠ q) w5 w')) (by kernel_rfl) (Kps.new (Below.drew (Below.refl _ _))) (fun hHeld => ?_)
        have MA := Lib.hid (MA.out.kps (F := fun _ => True) (Kps.new (Below.drew (Below.refl _ _))) trivial)
        generalize hwd : w5.drew = wd at MA hHeld ⊢
        clear hwd
        refine held_take (i := 0) (v := (.pointer (some ⟨a, 0, none⟩))) rfl (by kernel_rfl) (by kernel_rfl) (by kernel_rfl) (fun _ _ _ h => h) (Or.inl ⟨by rfl, fun w' _ => by kernel_rfl⟩) hHeld ?_
        go_frame
        refine held_take (i := 1) (v := (.pointer (some ⟨a, 0, none⟩))) rfl (by kernel_rfl) (by kernel_rfl) (by kernel_rfl) (fun _ _ _ h => h) (Or.inl ⟨by rfl, fun w' _ => by kernel_rfl⟩) hHeld ?_
        go_frame
        refine held_take (i := 2) (v := (.pointer (some ⟨a, 0, none⟩))) rfl (by kernel_rfl) (by kernel_rfl) (by kernel_rfl) (fun _ _ _ h => h) (Or.inl ⟨by rfl, fun w' _ => by kernel_rfl⟩) hHeld ?_
        go_frame
        refine held_take (i := 3) (v := (.map (some q))) rfl (by kernel_rfl) (by kernel_rfl) (by kernel_rfl) (fun _ _ _ h => h) (yieldsIf_load_one (by rfl) 74 (.tmp 35) rfl a (0) rfl _ _ (fun w' hw' => by rw [cell_of_row _ _ _ _ _ _ (row_kps BX.out hw' AQ.out)]; rfl) Tryz.underlying74 rfl) hHeld ?_
        go_frame
        refine held_take (i := 4) (v := (.agg cp.toArray)) rfl (by kernel_rfl) (by kernel_rfl) (by kernel_rfl) (fun _ _ _ h => h) (yieldsIf_load_row (by rfl) 50 (.tmp 4) rfl g3 rfl 50 cp.toArray (0, 0) _ (fun w' hw' => row_kps F3.out hw' Q3.out) Tryz.underlying50 rfl (by rw [PSZ.out]; kernel_rfl)) hHeld ?_
        go_frame
        refine held_take (i := 5) (v := (.agg ck.toArray)) rfl (by kernel_rfl) (by kernel_rfl) (by kernel_rfl) (fun _ _ _ h => h) (yieldsIf_load_row (by rfl) 46 (.tmp 5) rfl (g3 + 1) rfl 46 ck.toArray (0, 0) _ (fun w' hw' => row_kps F4.out hw' Q4.out) Tryz.underlying46 rfl (by rw [KSZ.out]; kernel_rfl)) hHeld ?_
        go_frame
        refine wpAnyH_ready (rs := [6]) (by kernel_rfl) (by simp) (held_cons rfl (fun K hK => ?_) AllReadyH.nil)
        rw [if_pos (by rfl)]
        refine wp_put_cn (.tmp 36) (.tmp 37) (.tmp 38) rfl q [] p HP.out k HK.out (GN.out rfl) rfl (by rw [← CP.out]; rfl) (by rw [← CKK.out]; rfl) MA.out ?_
        intro v1 q1 q2
        have MB := Lib.hid q1
        have hv1 : Kps (fun j => j ≠ q) w5 v1 := hHeld.trans (Kps.grown q2 fun j _ hj e => hj (Option.some.inj e))
        clear q1 q2 hHeld MA
        go_frame
        refine hK.out _ _ hv1 (fun hHeld => ?_)
        clear hK K hv1
        refine wpAnyH_done (by kernel_rfl) ?_ _
        have BY := Lib.hid (row_kps BX.out hHeld AQ.out)
        have HH := Lib.hid hHeld
        clear hHeld
        go_wp2_with fail
        go_ret
        exact ⟨rfl, some q, ⟨BY.out, MB.out⟩, .inr ⟨q, rfl, Nat.le_of_lt QL.out⟩, ((Kps.new B1.out).trans (KA.out.mono fun j _ hj => hj)).trans' HH.out QL.out⟩
end Go.Proofs.YtckkcpplanfmhaaGreatDoor.Sha

/-
  Ranging over a set's map, at the operations; what all coins are worth together. Nothing that was there turns. Conditions: the set lies where the pointer says.
-/
namespace Go.Proofs.YtckkcpplanfmhaaGreatDoor.Sha
open Go Go.RowKit
/-- How many are still to come, read off the world. -/
def iterLeft (m : Option Nat) (r : Nat) (w : World) : Nat :=
  match m with
  | none => 0
  | some b => w.rangeLeft b r
theorem IterAt.left {w : World} {m : Option Nat} {r : Nat} {rest : List TSp} (h : IterAt w m r rest) : iterLeft m r w = rest.length := by
  cases m with
  | none => rw [show rest = [] from h.1]; rfl
  | some b =>
    obtain ⟨es, clock, since, seen, c0, hb, _, hr, _, _, _, he, _⟩ := h
    have h4 := congrArg List.length he
    simp only [List.length_map, Array.length_toList] at h4
    show w.rangeLeft b r = _
    simp only [World.rangeLeft, hb, hr]
    exact h4
section
variable {ops : Array Oper} {rest : List Oper} {o : Oper} {a : Act} {w : World} {Q : Exit → Act → World → Prop}
end
end Go.Proofs.YtckkcpplanfmhaaGreatDoor.Sha

/-
  digest.Less tells whether one digest stands ahead of another, byte by byte; nothing that was there turns. Condition: digests of 32 bytes.
-/
namespace Go.Proofs.YtckkcpplanfmhaaGreatDoor.Sha
open Go Go.RowKit
def lessL (l m : List UInt8) : Bool := decide (Lib.compareBytes l m < 0)
theorem less_cons (x y : UInt8) (l m : List UInt8) : lessL (x :: l) (y :: m) = (decide (x < y) || (decide (x = y) && lessL l m)) := by
  unfold lessL
  simp only [Lib.compareBytes]
  by_cases h1 : x < y
  · simp [h1]
  · by_cases h2 : y < x
    · have h3 : ¬ x = y := fun e => by subst e; exact h1 h2
      simp [h1, h2, h3]
    · have h3 : x = y := UInt8.le_antisymm (UInt8.not_lt.1 h2) (UInt8.not_lt.1 h1)
      subst h3
      simp [h1]
theorem less_self (l : List UInt8) : lessL l l = false := by
  induction l with
  | nil => rfl
  | cons x l ih => rw [less_cons, ih]; simp
end Go.Proofs.YtckkcpplanfmhaaGreatDoor.Sha

/-
  spend.Less tells whether one place stands ahead of another: by the digest, then by the number. Nothing that was there turns. Condition: digests of 32 bytes.
-/
namespace Go.Proofs.YtckkcpplanfmhaaGreatDoor.Sha
open Go Go.RowKit
/-- The order of places. -/
def lessPt (h : List UInt8) (n : Nat) (h' : List UInt8) (n' : Nat) : Bool := if h = h' then decide (n < n') else lessL h h'
end Go.Proofs.YtckkcpplanfmhaaGreatDoor.Sha

/-
  The order of digests and of places: of two unlike ones just one is less; less and less is less. Condition: digests of one length.
-/
namespace Go.Proofs.YtckkcpplanfmhaaGreatDoor.Sha
open Go Go.RowKit
theorem less_total : ∀ (l m : List UInt8), l.length = m.length → l ≠ m → lessL l m = false → lessL m l = true
  | [], [], _, h, _ => absurd rfl h
  | x :: l, y :: m, hl, hne, h => by
    rw [less_cons] at h ⊢
    simp only [Bool.or_eq_false_iff, Bool.and_eq_false_iff, decide_eq_false_iff_not] at h
    by_cases e : x = y
    · subst e
      have h1 : lessL l m = false := by rcases h.2 with h2 | h2 <;> simp_all
      rw [less_total l m (by simpa using hl) (fun e => hne (by rw [e])) h1]
      simp
    · have : y < x := UInt8.lt_of_le_of_ne (UInt8.not_lt.1 h.1) (fun e' => e e'.symm)
      simp [this]
theorem less_trans : ∀ (l m k : List UInt8), l.length = m.length → m.length = k.length → lessL l m = true → lessL m k = true → lessL l k = true
  | [], [], _, _, _, h, _ => by cases h
  | x :: l, y :: m, z :: k, h1, h2, h, h' => by
    rw [less_cons] at h h' ⊢
    simp only [Bool.or_eq_true, Bool.and_eq_true, decide_eq_true_eq] at h h' ⊢
    rcases h with h | ⟨rfl, h⟩ <;> rcases h' with h' | ⟨rfl, h'⟩
    · exact .inl (UInt8.lt_trans h h')
    · exact .inl h
    · exact .inl h'
    · exact .inr ⟨rfl, less_trans l m k (by simpa using h1) (by simpa using h2) h h'⟩
theorem lessPt_total {a b : List UInt8} {n m : Nat} (hl : a.length = b.length) (hne : (decide (a = b) && decide (n = m)) = false) (h : lessPt a n b m = false) : lessPt b m a n = true := by
  unfold lessPt at h ⊢
  by_cases e : a = b
  · subst e
    simp at h hne ⊢
    omega
  · rw [if_neg e] at h
    rw [if_neg (fun e' => e e'.symm)]
    exact less_total a b hl e h
theorem lessPt_self (a : List UInt8) (n : Nat) : lessPt a n a n = false := by simp [lessPt]
theorem lessPt_trans {a b c : List UInt8} {n m k : Nat} (hl : a.length = b.length) (hl' : b.length = c.length) (h : lessPt a n b m = true) (h' : lessPt b m c k = true) : lessPt a n c k = true := by
  unfold lessPt at h h' ⊢
  by_cases e : a = b
  · subst e
    by_cases e' : a = c
    · subst e'
      simp only [if_true, decide_eq_true_eq] at h h' ⊢
      omega
    · simp only [if_true, if_neg e', decide_eq_true_eq] at h h' ⊢
      exact h'
  · by_cases e' : b = c
    · subst e'
      simp only [if_neg e] at h ⊢
      exact h
    · simp only [if_neg e, if_neg e'] at h h'
      have h2 := less_trans a b c hl hl' h h'
      by_cases e2 : a = c
      · subst e2
        rw [less_self] at h2
        cases h2
      · rw [if_neg e2]
        exact h2
end Go.Proofs.YtckkcpplanfmhaaGreatDoor.Sha

/-
  Worlds that only grow: blocks are laid behind, orders drawn; digests and places held against each other do no more. Condition: digests of 32 bytes.
-/
namespace Go.Proofs.YtckkcpplanfmhaaGreatDoor.Sha
open Go Go.RowKit
open Go.Sort (grow grow_empty grow_grow alloc_eq_grow heap_grow_old size_grow)
/-- w' is w with orders drawn and blocks laid behind. -/
def Lay (w w' : World) : Prop := ∃ q os, w' = grow (w.drewN q) os
theorem Lay.refl (w : World) : Lay w w := ⟨0, #[], by rw [grow_empty]; rfl⟩
theorem Lay.alloc {w w1 : World} (h : Lay w w1) (o : Obj) : Lay w (w1.alloc o) := by
  obtain ⟨q, os, rfl⟩ := h
  exact ⟨q, os ++ #[o], by rw [alloc_eq_grow, grow_grow]⟩
theorem Lay.drewN {w w1 : World} (h : Lay w w1) (n : Nat) : Lay w (w1.drewN n) := by
  obtain ⟨q, os, rfl⟩ := h
  exact ⟨q + n, os, by simp [World.drewN, grow, Nat.add_assoc]⟩
theorem Lay.below {w w' : World} (h : Lay w w') : Below w.heap.size w w' := by
  obtain ⟨q, os, rfl⟩ := h
  exact ⟨rfl, rfl, rfl, by simp [World.drewN], fun k hk => heap_grow_old (w.drewN q) os hk⟩
theorem Lay.trans {w w1 w2 : World} (h : Lay w w1) (k : Lay w1 w2) : Lay w w2 := by
  obtain ⟨q, os, rfl⟩ := h
  obtain ⟨q', os', rfl⟩ := k
  exact ⟨q + q', os ++ os', by simp [World.drewN, grow, Nat.add_assoc, Array.append_assoc]⟩
end Go.Proofs.YtckkcpplanfmhaaGreatDoor.Sha

/-
  The library's sort at coins with their places, by package coins' own order: a row that is the same coins, in the order of their places. Conditions: the row is one's own; no place twice; at most 2^20 coins.
-/
namespace Go.Proofs.YtckkcpplanfmhaaGreatDoor.Sha
open Go Go.RowKit
open Go.Sort (grow SWO PermIn SortedIn HoldsK flatK putRowK putRow mapBlock size_flatK get_flatK heap_grow_old)
/-- A coin with its place, as the model has one. -/
abbrev OSp : Type := {x : TSp // SpOk x}
instance : Inhabited OSp := ⟨⟨spZ, spZ_ok⟩⟩
/-- One place ahead of another. -/
def ltSp (x y : TSp) : Bool := lessPt x.at_.h x.at_.n y.at_.h y.at_.n
theorem ltSp_total {x y : TSp} (hx : SpOk x) (hy : SpOk y) (hne : x.at_ ≠ y.at_) (h : ltSp x y = false) : ltSp y x = true := by
  refine lessPt_total (by rw [hx.1.1, hy.1.1]) ?_ h
  by_cases e : x.at_.h = y.at_.h
  · by_cases e' : x.at_.n = y.at_.n
    · refine absurd ?_ hne
      cases hx0 : x.at_
      cases hy0 : y.at_
      rw [hx0, hy0] at e e'
      simp only at e e'
      rw [e, e']
    · simp [e']
  · simp [e]
/-- In the order of their places. -/
def SortedC (l : List TSp) : Prop := l.Pairwise (fun x y => ltSp x y = true)
end Go.Proofs.YtckkcpplanfmhaaGreatDoor.Sha

/-
  What a set becomes as it is told things: added one by one; a map's block above. No conditions.
-/
namespace Go.Proofs.YtckkcpplanfmhaaGreatDoor.Sha
open Go Go.RowKit
/-- A map's block is above this one. -/
def HiM (base : Nat) (m : Option Nat) : Prop := ∀ q, m = some q → base ≤ q
theorem HiM.add {base s : Nat} {m m' : Option Nat} (h : HiM base m) (hs : base ≤ s) (hm : m' = m ∨ ∃ b, m' = some b ∧ s ≤ b) : HiM base m' := by
  rcases hm with rfl | ⟨b, rfl, hb⟩
  · exact h
  · intro q e
    cases e
    exact Nat.le_trans hs hb
theorem Below.set {base : Nat} {w0 w w' : World} {a : Nat} {m : Option Nat} (h : Below base w0 w) (hk : Kps (fun j => j ≠ a ∧ m ≠ some j) w w') (ha : base ≤ a) (hm : HiM base m) (hb : base ≤ w.heap.size) : Below base w0 w' :=
  h.trans ⟨hk.os, hk.tape, hk.output, hk.size, fun k hlt => hk.block k (by omega) ⟨by omega, fun e => by have := hm k e; omega⟩⟩
theorem addR_fits {l : List TSp} {p : TPt} {k : TMn} (hv : k.val ≤ 2100000000000000) (hn : getC l p = none) : addR l p k = 0 := by
  unfold addR
  rw [if_neg (by omega), hn]
  rfl
theorem addR_there {l : List TSp} {p : TPt} {k : TMn} (hv : k.val ≤ 2100000000000000) (hn : (getC l p).isSome = true) : addR l p k = 6 := by
  unfold addR
  rw [if_neg (by omega), if_pos hn]
theorem addR_great {l : List TSp} {p : TPt} {k : TMn} (hv : 2100000000000000 < k.val) : addR l p k = 5 := by
  unfold addR
  rw [if_pos hv]
theorem addL_not {l : List TSp} {p : TPt} {k : TMn} {c : Nat} (h : addR l p k = c + 1) : addL l p k = l := by
  unfold addL
  rw [if_neg (by omega)]
end Go.Proofs.YtckkcpplanfmhaaGreatDoor.Sha

/-
  A coin with its place built out of its parts. No conditions beyond those that each states.
-/
namespace Go.Proofs.YtckkcpplanfmhaaGreatDoor.Sha
open Go Go.RowKit
def ptZ : TPt := ⟨List.replicate 32 0, 0⟩
theorem built_sp (x : TSp) (hx : SpOk x) : Tryz.prog.built 84 [(0, .agg (ptC x.at_).toArray), (1, .agg (mnL x.coin).toArray)] = some (spL x).toArray := by
  have hz : ∀ parts, Tryz.prog.built 84 parts = Instr.fill ([(0, 33), (33, 35)].toArray[·]?) (ptC ptZ ++ mnL mnZ).toArray parts := fun parts => by kernel_rfl
  have l1 := ptC_length hx.1
  have l2 := mnL_length hx.2
  have l3 : (ptC ptZ).length = 33 := rfl
  have l4 : (mnL mnZ).length = 35 := rfl
  rw [hz, fill_part _ 0 0 (.agg (ptC x.at_).toArray) (ptC x.at_) _ _ rfl (by rw [l1]; rfl) (by rw [List.length_append]; omega), List.take_zero, List.nil_append, l1, Nat.zero_add,
    fill_part _ 1 33 (.agg (mnL x.coin).toArray) (mnL x.coin) _ _ rfl (by rw [l2]; rfl) (by rw [List.length_append, List.length_drop, List.length_append]; omega)]
  have e1 : (ptC x.at_ ++ (ptC ptZ ++ mnL mnZ).drop 33).take 33 = ptC x.at_ := by rw [List.take_append_of_le_length (by omega), List.take_of_length_le (by omega)]
  have e2 : (ptC x.at_ ++ (ptC ptZ ++ mnL mnZ).drop 33).drop (33 + (mnL x.coin).length) = [] := List.drop_eq_nil_of_le (by rw [List.length_append, List.length_drop, List.length_append]; omega)
  rw [e1, e2, List.append_nil]
  rfl
end Go.Proofs.YtckkcpplanfmhaaGreatDoor.Sha

/-
  All coins of a set with their places, in the places' order: new memory; nothing that was there turns. Conditions: the set lies where the pointer says, at most 2^20 coins.
-/
namespace Go.Proofs.YtckkcpplanfmhaaGreatDoor.Sha
open Go Go.RowKit
theorem IterAt.grown {w w' : World} {m : Option Nat} {r : Nat} {q : Option Nat} {rest : List TSp} (h : IterAt w m r rest) (hg : w.grownBy w' q) (h1 : q ≠ some r) (h2 : ∀ b, m = some b → q ≠ some b) : IterAt w' m r rest :=
  h.kps (F := fun k => q ≠ some k) (Kps.grown hg fun k _ hk e => hk e.symm) (fun b hb => h2 b hb) h1
end Go.Proofs.YtckkcpplanfmhaaGreatDoor.Sha

/-
  A coin's bytes, as a set's digest reads them: package coins writes them into new memory; nothing that was there turns. Conditions: a coin as the model has it.
-/
namespace Go.Proofs.YtckkcpplanfmhaaGreatDoor.Sha
open Go Go.RowKit
/-- A height's 64 bits. -/
def hN (h : Int) : Nat := (h % 18446744073709551616).toNat
end Go.Proofs.YtckkcpplanfmhaaGreatDoor.Sha
