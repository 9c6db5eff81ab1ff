/-
  Package view: a transaction is put over; its two maps alone turn. Conditions: the view lies where the pointer says, the transaction as the model has it, of at most a thousand inputs and outputs; the errors and the rounds' words are there.
-/
import Derived.Test.YtgcoegbamoehfaaDoorMg10
import Derived.Test.YtgcoegbamoehfaaDoorMg13
import Derived.Test.YtgcoegbamoehfaaDoorMg05
import Derived.Test.YtgcoegbamoehfaaDoorMg06
namespace Go.Proofs.YtgcoegbamoehfaaDoor.Sha
open Go Go.RowKit
structure VE (w : World) (E : Nat → Addr) : Prop where
  twice : w.cell? ⟨1, 0, none⟩ = some (errV E 6)
  missing : w.cell? ⟨2, 0, none⟩ = some (errV E 13)
  none_ : w.cell? ⟨3, 0, none⟩ = some (errV E 23)
theorem VE.of {w : World} {E : Nat → Addr} (h : Errs w E) : VE w E := ⟨(h.1 5 (by omega)).1, (h.1 12 (by omega)).1, (h.1 22 (by omega)).1⟩
theorem VE.below {w w' : World} {E : Nat → Addr} (h : VE w E) (hb : Below w.heap.size w w') : VE w' E := ⟨cell_below h.twice hb, cell_below h.missing hb, cell_below h.none_ hb⟩
def idV (t : TTx) : List UInt8 := sha (sha (txB t))
/-- What a coin of an output is, at a height. -/
def mnOf (ht : Int) (y : TOut) : TMn := ⟨y.val, y.lock, ht, false⟩
def putV (l : List TSp) (made : Made) (gone : Gone) (t : TTx) : Nat :=
  if (getG made (idV t)).isSome then 6 else if !(t.ins.all fun x => (vGet l made gone (ptIn x)).isSome) || outIs l (idV t) t.outs.length then 13 else 0
def goneV (gone : Gone) (id : List UInt8) (xs : List TIn) : Gone := xs.foldl (fun g x => putG g (ptIn x) id) gone
theorem goneV_succ (gone : Gone) (id : List UInt8) {xs : List TIn} {k : Nat} {x : TIn} (h : xs[k]? = some x) : goneV gone id (xs.take (k + 1)) = putG (goneV gone id (xs.take k)) (ptIn x) id := by
  have hk := (List.getElem?_eq_some_iff.1 h).1
  unfold goneV
  rw [List.take_succ_eq_append_getElem hk, (List.getElem?_eq_some_iff.1 h).2, List.foldl_append]
  rfl
theorem putG_mem {α β : Type} [DecidableEq α] {l : List (α × β)} {a : α} {b : β} {x : α × β} (h : x ∈ putG l a b) : x ∈ l ∨ x = (a, b) := by
  unfold putG at h
  split at h
  · obtain ⟨y, hy, rfl⟩ := List.mem_map.1 h
    by_cases hya : y.1 = a
    · rw [if_pos hya]; exact .inr rfl
    · rw [if_neg hya]; exact .inl hy
  · rcases List.mem_append.1 h with h | h
    · exact .inl h
    · exact .inr (List.mem_singleton.1 h)
section
variable {w w' : World} {b a mb sb : Nat} {m : Option Nat} {l : List TSp} {made : Made} {gone : Gone}
theorem ViewAt.setGone (h : ViewAt w b a m mb sb l made gone) {gone' : Gone} (hg : w.grownBy w' (some sb)) (hm : MpAt pK hK PtOk w' sb gone') (hi : ∀ x ∈ gone', x.2.length = 32) : ViewAt w' b a m mb sb l made gone' :=
  have hk : Kps (fun k => k ≠ sb) w w' := Kps.grown hg fun k _ hk e => hk (Option.some.inj e)
  ⟨row_kps h.box hk (h.gp.ne h.box), h.set.kps hk (h.gp.ne h.set.box) (fun q hq e => h.ne.2.2 (by rw [hq, e])), h.mp.kps hk h.ne.1, hm, fun x hx => ⟨⟨own_kpsB (h.outs x hx).1.1 hk (fun g hg' e => own_nemap h.gp (h.outs x hx).1.1 (by rw [hg', e])), (h.outs x hx).1.2⟩, (h.outs x hx).2⟩, hi, h.ne⟩
theorem ViewAt.putGone (h : ViewAt w b a m mb sb l made gone) {p : TPt} {id : List UInt8} (hi : id.length = 32) (hg : w.grownBy w' (some sb)) (hm : MpAt pK hK PtOk w' sb (putG gone p id)) : ViewAt w' b a m mb sb l made (putG gone p id) :=
  h.setGone hg hm fun x hx => by
    rcases putG_mem hx with hx | rfl
    · exact h.ids x hx
    · exact hi
theorem ViewAt.setMade (h : ViewAt w b a m mb sb l made gone) {made' : Made} (hg : w.grownBy w' (some mb)) (hm : MpAt hK (fun x => x.1) (fun i => i.length = 32) w' mb made') (hi : ∀ x ∈ made', RwOwn 35 37 0 w x.2.1 (x.2.2.map mnL) ∧ (∀ c ∈ x.2.2, MnOk c) ∧ x.2.2.length ≤ 1000) : ViewAt w' b a m mb sb l made' gone :=
  have hk : Kps (fun k => k ≠ mb) w w' := Kps.grown hg fun k _ hk e => hk (Option.some.inj e)
  ⟨row_kps h.box hk (h.mp.ne h.box), h.set.kps hk (h.mp.ne h.set.box) (fun q hq e => h.ne.2.1 (by rw [hq, e])), hm, h.gp.kps hk (fun e => h.ne.1 e.symm), fun x hx => ⟨⟨own_kpsB (hi x hx).1.1 hk (fun g hg' e => own_nemap h.mp (hi x hx).1.1 (by rw [hg', e])), (hi x hx).1.2⟩, (hi x hx).2⟩, h.ids, h.ne⟩
end
/-- A row that is one's own stays over a call of a view's. -/
theorem VF.new {mb sb : Nat} {w w' : World} (h : Below w.heap.size w w') : Kps (VF mb sb) w w' := Kps.new h
theorem VF.gone {mb sb : Nat} {w w' : World} (hg : w.grownBy w' (some sb)) : Kps (VF mb sb) w w' := Kps.grown hg fun k _ hk e => hk.2 (Option.some.inj e)
theorem VF.made {mb sb : Nat} {w w' : World} (hg : w.grownBy w' (some mb)) : Kps (VF mb sb) w w' := Kps.grown hg fun k _ hk e => hk.1 (Option.some.inj e)
theorem built_mn3 (c : TMn) (hc : MnOk c) (hb : c.base = false) : Tryd.prog.built 37 [(0, .int .u64 (c.val : Int)), (1, .agg (c.lock.map bV).toArray), (2, .int .i64 c.height)] = some (mnL c).toArray := by
  have hz : ∀ parts, Tryd.prog.built 37 parts = Instr.fill ([(0, 1), (1, 32), (33, 1), (34, 1)].toArray[·]?) (mnL mnZ).toArray parts := fun parts => by kernel_rfl
  obtain ⟨x, k, y, z⟩ := c
  obtain rfl : z = false := hb
  have l1 : (k.map bV).length = 32 := by simp [show k.length = 32 from hc.1]
  have l2 : (mnL mnZ).length = 35 := rfl
  have e0 : mnL mnZ = .int .u64 0 :: (List.replicate 32 (bV 0) ++ [.int .i64 0, .bool false]) := by simp [mnL, mnZ]
  rw [hz, fill_part _ 0 0 (.int .u64 (x : Int)) [.int .u64 (x : Int)] _ _ rfl rfl (by simp [l2]), List.take_zero, List.nil_append, List.length_singleton, Nat.zero_add]
  have e1 : [Value.int .u64 (x : Int)] ++ (mnL mnZ).drop 1 = .int .u64 (x : Int) :: (List.replicate 32 (bV 0) ++ [.int .i64 0, .bool false]) := by rw [e0]; rfl
  rw [e1, fill_part _ 1 1 (.agg (k.map bV).toArray) (k.map bV) _ _ rfl (by rw [l1]; rfl) (by simp [l1])]
  have e2 : (Value.int .u64 (x : Int) :: (List.replicate 32 (bV 0) ++ [.int .i64 0, .bool false])).take 1 ++ k.map bV ++ (Value.int .u64 (x : Int) :: (List.replicate 32 (bV 0) ++ [.int .i64 0, .bool false])).drop (1 + (k.map bV).length) = .int .u64 (x : Int) :: (k.map bV ++ [.int .i64 0, .bool false]) := by
    rw [l1, show 1 + 32 = 32 + 1 from rfl, List.drop_succ_cons, List.drop_append_of_le_length (by simp), List.drop_eq_nil_of_le (by simp)]
    rfl
  rw [e2, fill_part _ 2 33 (.int .i64 y) [.int .i64 y] _ _ rfl rfl (by simp [l1])]
  have e3 : (Value.int .u64 (x : Int) :: (k.map bV ++ [.int .i64 0, .bool false])).take 33 ++ [.int .i64 y] ++ (Value.int .u64 (x : Int) :: (k.map bV ++ [.int .i64 0, .bool false])).drop (33 + [Value.int .i64 y].length) = .int .u64 (x : Int) :: (k.map bV ++ [.int .i64 y, .bool false]) := by
    rw [List.take_succ_cons, List.take_append_of_le_length (by omega), List.take_of_length_le (by omega), List.length_singleton, show 33 + 1 = 33 + 1 from rfl, List.drop_succ_cons, List.drop_append, List.drop_eq_nil_of_le (by omega), l1]
    simp
  rw [e3]
  rfl
def PvI1 (b a mb sb : Nat) (m : Option Nat) (l : List TSp) (made : Made) (gone : Gone) (id : List UInt8) (xs : List TIn) (n : Nat) (w : World) (vi : Value) (wr : World) : Prop :=
  ∃ k : Nat, k ≤ n ∧ vi = .int .i64 (k : Int) ∧ ViewAt wr b a m mb sb l made (goneV gone id (xs.take k)) ∧ Kps (VF mb sb) w wr
def PvI2 (ys : List TOut) (ht : Int) (n : Nat) (w : World) (vb vi : Value) (wr : World) : Prop :=
  ∃ (k : Nat) (v : Value), v = vb ∧ k ≤ n ∧ vi = .int .i64 (k : Int) ∧ RwOwn 35 37 w.heap.size wr v ((ys.take k).map fun y => mnL (mnOf ht y)) ∧ Below w.heap.size w wr
/-- What Put leaves. -/
def PvPost (E : Nat → Addr) (b a mb sb : Nat) (m : Option Nat) (l : List TSp) (made : Made) (gone : Gone) (t : TTx) (ht : Int) (w : World) (e : Ending) (w' : World) : Prop :=
  Kps (VF mb sb) w w' ∧ ((putV l made gone t ≠ 0 ∧ e = .returned (errV E (putV l made gone t)) ∧ ViewAt w' b a m mb sb l made gone) ∨
    (putV l made gone t = 0 ∧ e = .returned .nilIface ∧ ∃ v, ViewAt w' b a m mb sb l (made ++ [(idV t, (v, t.outs.map (mnOf ht)))]) (goneV gone (idV t) t.ins) ∧ ∀ g, v.ownBlock = some g → w.heap.size ≤ g))
set_option maxHeartbeats 8000000 in
set_option maxRecDepth 100000 in
theorem vwput_any (E : Nat → Addr) (w : World) (b a mb sb : Nat) (m : Option Nat) (l : List TSp) (made : Made) (gone : Gone) (t : TTx) (iv ov : Value) (ht : Int) (hv : ViewAt w b a m mb sb l made gone) (hE : VE w E) (hT : Sty (VF mb sb) w fun W => TxAt W (.agg (txL t iv ov).toArray) t) (hk : ∀ W, Below w.heap.size w W → KTab W) (hs : TxSmall t) (hh : -9223372036854775808 ≤ ht ∧ ht ≤ 9223372036854775807) :
    Calls Tryd.prog 8 #[.pointer (some ⟨b, 0, none⟩), .agg (txL t iv ov).toArray, .int .i64 ht] w (PvPost E b a mb sb m l made gone t ht w) := by
  obtain ⟨i0, hi, hz0, hz1, hz2⟩ := info_parts info_money
  have HV := Lib.hid hv
  have HE := Lib.hid hE
  have HH := Lib.hid hh
  have TS := Lib.hid hT
  have TI : Hid (∀ W, Kps (VF mb sb) w W → InsAt W iv t.ins) := fun W hW => (vtx_parts (hT W hW)).1
  have TO : Hid (∀ W, Kps (VF mb sb) w W → OutsAt W ov t.outs) := fun W hW => (vtx_parts (hT W hW)).2
  have TONE : Hid ((txL t iv ov).toArray.all (·.oneCell') = true) := tx_one (vtx_parts hT.now).1 (vtx_parts hT.now).2
  have IA : Hid (∀ W, Below w.heap.size w W → Calls Tryd.prog 18 #[.agg (txL t iv ov).toArray] W fun e w' => e = .returned (.agg ((idV t).map bV).toArray) ∧ Below W.heap.size W w') := fun W hW => id_of bytes_all t _ W (hk W hW) (hT W (Kps.new hW)) hs
  have LID : Hid ((idV t).length = 32) := sha_length _
  have LT : Hid ((txL t iv ov).toArray.size = 4) := rfl
  have CI1 : Hid (∀ (W : World) (g : Nat), W.heap[g]? = some (.cells (txL t iv ov).toArray 49 (0, 0)) → W.cell? ⟨g, 1, none⟩ = some iv ∧ W.cell? ⟨g, 2, none⟩ = some ov) := fun W g hg => ⟨(tx_cells hg).2.1, (tx_cells hg).2.2.1⟩
  have INA : Hid (∀ W, Below w.heap.size w W → Calls Tryd.prog 19 #[.pointer (some ⟨b, 0, none⟩), .agg (txL t iv ov).toArray] W fun e w' => e = .returned (.bool (t.ins.all fun x => (vGet l made gone (ptIn x)).isSome)) ∧ Below W.heap.size W w') := fun W hW => vwins_any W b a mb sb m l made gone t iv ov (hv.below hW) (hT W (Kps.new hW)) hs.2.1
  have OUA : Hid (∀ W, Below w.heap.size w W → Calls Tryd.prog 20 #[.pointer (some ⟨b, 0, none⟩), .agg (txL t iv ov).toArray, .agg ((idV t).map bV).toArray] W fun e w' => e = .returned (.bool (outIs l (idV t) t.outs.length)) ∧ Below W.heap.size W w') := fun W hW => vwouts_any W b a mb sb m l made gone t iv ov (idV t) (sha_length _) (hv.below hW) (hT W (Kps.new hW)) hs.2.2.1
  have LKM : Hid (∀ W, Below w.heap.size w W → (Instr.lookup 62 (.map (some mb)) (.agg ((idV t).map bV).toArray) true).run Tryd.prog W = .ok (.tuple #[((getG made (idV t)).getD (.slice none 0 0, [])).1, .bool (getG made (idV t)).isSome]) W) := fun W hW => gm_look mty_made (hv.below hW).mp (idV t) (sha_length _)
  have P1 : Hid ((getG made (idV t)).isSome = true → putV l made gone t = 6) := fun h => by unfold putV; rw [if_pos h]
  have P2 : Hid ((getG made (idV t)).isSome = false → (t.ins.all fun x => (vGet l made gone (ptIn x)).isSome) = false → putV l made gone t = 13) := fun h h2 => by unfold putV; rw [if_neg (by rw [h]; decide), if_pos (by rw [h2]; rfl)]
  have P3 : Hid ((getG made (idV t)).isSome = false → outIs l (idV t) t.outs.length = true → putV l made gone t = 13) := fun h h2 => by unfold putV; rw [if_neg (by rw [h]; decide), if_pos (by rw [h2, Bool.or_true])]
  have P4 : Hid ((getG made (idV t)).isSome = false → (t.ins.all fun x => (vGet l made gone (ptIn x)).isSome) = true → outIs l (idV t) t.outs.length = false → putV l made gone t = 0) := fun h h2 h3 => by unfold putV; rw [if_neg (by rw [h]; decide), if_neg (by rw [h2, h3]; decide)]
  have GN : Hid ((getG made (idV t)).isSome = false → getG made (idV t) = none) := fun h => by
    cases hg : getG made (idV t) with
    | none => rfl
    | some c => rw [hg] at h; cases h
  obtain ⟨spi, capi, hsv⟩ : ∃ sp cap, iv = .slice sp t.ins.length cap := by
    obtain ⟨sp, cap, e, _⟩ := (vtx_parts hT.now).1
    exact ⟨sp, cap, e⟩
  obtain ⟨spo, capo, hov⟩ : ∃ sp cap, ov = .slice sp t.outs.length cap := by
    obtain ⟨sp, cap, e, _⟩ := (vtx_parts hT.now).2
    exact ⟨sp, cap, e⟩
  have BI : Hid (t.ins.length ≤ 1000 ∧ t.outs.length ≤ 1000) := ⟨hs.2.1, hs.2.2.1⟩
  unfold PvPost
  obtain ⟨R, hR⟩ : ∃ R, R = putV l made gone t := ⟨_, rfl⟩
  rw [← hR] at P1 P2 P3 P4 ⊢
  obtain ⟨q1, hq1⟩ : ∃ q1, q1 = (t.ins.all fun x => (vGet l made gone (ptIn x)).isSome) := ⟨_, rfl⟩
  rw [← hq1] at INA P2 P4
  obtain ⟨q2, hq2⟩ : ∃ q2, q2 = outIs l (idV t) t.outs.length := ⟨_, rfl⟩
  rw [← hq2] at OUA P3 P4
  obtain ⟨q0, hq0⟩ : ∃ q0, q0 = (getG made (idV t)).isSome := ⟨_, rfl⟩
  rw [← hq0] at LKM P1 P2 P3 P4 GN
  obtain ⟨v0, hv0⟩ : ∃ v0, v0 = ((getG made (idV t)).getD (.slice none 0 0, [])).1 := ⟨_, rfl⟩
  rw [← hv0] at LKM
  obtain ⟨id, hid⟩ : ∃ id, id = idV t := ⟨_, rfl⟩
  rw [← hid] at IA LID OUA LKM GN ⊢
  obtain ⟨xs, hxs⟩ : ∃ xs, xs = t.ins := ⟨_, rfl⟩
  obtain ⟨ys, hys⟩ : ∃ ys, ys = t.outs := ⟨_, rfl⟩
  rw [← hxs] at TI hsv BI ⊢
  rw [← hys] at TO hov BI ⊢
  obtain ⟨n, hn1⟩ : ∃ n, n = xs.length := ⟨_, rfl⟩
  obtain ⟨no, hno⟩ : ∃ no, no = ys.length := ⟨_, rfl⟩
  rw [← hn1] at hsv BI
  rw [← hno] at hov BI
  have NX := Lib.hid hn1
  have NO := Lib.hid hno
  obtain ⟨ct, hct⟩ : ∃ ct, ct = txL t iv ov := ⟨_, rfl⟩
  rw [← hct] at TONE IA LT CI1 INA OUA ⊢
  rw [hsv, hov] at CI1
  rw [hsv] at TI
  rw [hov] at TO
  have LCI : Hid ((id.map bV).length = 32) := by show _ = _; rw [List.length_map]; exact LID.out
  have SCI : Hid ((id.map bV).toArray.size = 32) := by show _ = _; rw [List.size_toArray]; exact LCI.out
  have ACI : Hid ((id.map bV).toArray.all (·.oneCell') = true) := bV_one _
  obtain ⟨ci, hci⟩ : ∃ ci, ci = id.map bV := ⟨_, rfl⟩
  rw [← hci] at IA OUA LKM LCI SCI ACI
  have CIE := Lib.hid hci
  clear hv hE hT hk hs hh hR hq0 hq1 hq2 hv0 hid hxs hys hn1 hno hct hsv hov hci TS
  go_enter Tryd.func8, Tryd.ntmps8
  go_upto_region 1 with fail
  have f4 := heap_alloc_new w (.cells ct.toArray 49 (0, 0))
  have b1 := (Below.refl w.heap.size w).alloc (Nat.le_refl _) (.cells ct.toArray 49 (0, 0))
  generalize hw1 : World.alloc _ _ = w1
  have e1 : w.alloc (.cells ct.toArray 49 (0, 0)) = w1 := hw1
  rw [e1] at f4 b1
  obtain ⟨g4, hg4⟩ : ∃ g4, g4 = w.heap.size := ⟨_, rfl⟩
  rw [← hg4] at f4 ⊢
  have F4 := Lib.hid f4
  have B1 := Lib.hid b1
  clear f4 b1 hw1 e1 hg4
  go_wp2_with ((with_reducible show wpList _ _ _ _ _ _); (refine wpList_load_row rfl 49 (.tmp 4) rfl g4 rfl 49 ct.toArray (0, 0) _ F4.out Tryd.underlying49 rfl (by rw [LT.out]; kernel_rfl) ?_; go_frame))
  refine (IA.out w1 B1.out).mono ?_
  rintro e w2 ⟨rfl, bb⟩
  have F4 := Lib.hid (row_below F4.out bb)
  have B1 := Lib.hid (B1.out.trans (bb.mono B1.out.size))
  clear bb IA
  go_upto_region 2 with ((with_reducible show wpList _ _ _ _ _ _); (refine wpList_store_row rfl 25 (.tmp 7) (.tmp 16) rfl w2.heap.size ci.toArray rfl rfl 25 _ (heap_alloc_new _ _) (by rw [SCI.out]; kernel_rfl) (by rw [SCI.out]; rfl) ACI.out ?_; go_frame))
  obtain ⟨_, f2, f3, f4⟩ := fill_setup (Below.refl w2.heap.size w2) (List.replicate 32 (bV 0)).toArray ci.toArray 25
  generalize hqw3 : World.setRow _ _ _ = w3
  have ew3 : World.setRow (w2.alloc (.cells (List.replicate 32 (bV 0)).toArray 25)) w2.heap.size ci.toArray = w3 := hqw3
  rw [ew3] at f2 f3 f4
  obtain ⟨g7, hg7⟩ : ∃ g7, g7 = w2.heap.size := ⟨_, rfl⟩
  rw [← hg7] at f2 ⊢
  have F7 := Lib.hid f2
  have Ng7 : Hid (w2.heap.size ≤ g7) := by show _ ≤ _; rw [hg7]; exact Nat.le_refl _
  have F4 := Lib.hid (row_below F4.out f4)
  have B1 := Lib.hid (B1.out.trans (f4.mono B1.out.size))
  clear f2 f3 f4 hqw3 ew3 hg7
  have HV3 := Lib.hid (HV.out.below B1.out)
  clear Ng7
  refine wp_region_held_drew (S := (fun w' => Below w3.heap.size w3 w')) (by kernel_rfl) (Below.drew (Below.refl _ _)) (fun hHeld => ?_)
  generalize hwd : w3.drew = wd at  hHeld ⊢
  clear hwd
  refine held_take (i := 0) (v := (.pointer (some ⟨b, 0, none⟩))) rfl (by kernel_rfl) (by kernel_rfl) (by kernel_rfl) (fun _ _ _ h => h) (Or.inl ⟨by rfl, fun w' _ => by kernel_rfl⟩) hHeld ?_
  go_frame
  refine held_take (i := 1) (v := (.pointer (some ⟨b, 0, none⟩))) rfl (by kernel_rfl) (by kernel_rfl) (by kernel_rfl) (fun _ _ _ h => h) (Or.inl ⟨by rfl, fun w' _ => by kernel_rfl⟩) hHeld ?_
  go_frame
  refine held_take (i := 2) (v := (.pointer (some ⟨b, 1, none⟩))) rfl (by kernel_rfl) (by kernel_rfl) (by kernel_rfl) (fun _ _ _ h => h) (Or.inl ⟨by rfl, fun w' _ => by kernel_rfl⟩) hHeld ?_
  go_frame
  refine held_take (i := 3) (v := (.map (some mb))) rfl (by kernel_rfl) (by kernel_rfl) (by kernel_rfl) (fun _ _ _ h => h) (yieldsIf_load_one (by rfl) 62 (.tmp 20) rfl b (1) rfl _ _ (fun w' hw' => (HV3.out.below hw').mcell) Tryd.underlying62 rfl) hHeld ?_
  go_frame
  refine held_take (i := 4) (v := (.agg ci.toArray)) rfl (by kernel_rfl) (by kernel_rfl) (by kernel_rfl) (fun _ _ _ h => h) (yieldsIf_load_row (by rfl) 25 (.tmp 7) rfl g7 rfl 25 ci.toArray (0, 0) _ (fun w' hw' => row_below F7.out hw') Tryd.underlying25 rfl (by rw [SCI.out]; kernel_rfl)) hHeld ?_
  go_frame
  refine held_take (i := 5) (v := (.tuple #[v0, .bool q0])) rfl (by kernel_rfl) (by kernel_rfl) (by kernel_rfl) (fun _ _ _ h => h) (yieldsIf_lookup (by rfl) 62 (.tmp 21) (.tmp 22) true rfl _ _ _ rfl rfl (fun w' hw' => LKM.out w' (B1.out.trans (hw'.mono B1.out.size)))) hHeld ?_
  go_frame
  refine held_take (i := 6) (v := (.tuple #[v0, .bool q0])) rfl (by kernel_rfl) (by kernel_rfl) (by kernel_rfl) (fun _ _ _ h => h) (Or.inl ⟨by rfl, fun w' _ => by kernel_rfl⟩) hHeld ?_
  go_frame
  refine held_take (i := 7) (v := v0) rfl (by kernel_rfl) (by kernel_rfl) (by kernel_rfl) (fun _ _ _ h => h) (Or.inl ⟨by rfl, fun w' _ => by kernel_rfl⟩) hHeld ?_
  go_frame
  refine held_take (i := 8) (v := (.bool q0)) rfl (by kernel_rfl) (by kernel_rfl) (by kernel_rfl) (fun _ _ _ h => h) (Or.inl ⟨by rfl, fun w' _ => by kernel_rfl⟩) hHeld ?_
  go_frame
  refine held_take (i := 9) (v := v0) rfl (by kernel_rfl) (by kernel_rfl) (by kernel_rfl) (fun _ _ _ h => h) (Or.inl ⟨by rfl, fun w' _ => by kernel_rfl⟩) hHeld ?_
  go_frame
  refine held_take (i := 10) (v := (.bool q0)) rfl (by kernel_rfl) (by kernel_rfl) (by kernel_rfl) (fun _ _ _ h => h) (Or.inl ⟨by rfl, fun w' _ => by kernel_rfl⟩) hHeld ?_
  go_frame
  refine wpAnyH_done (by kernel_rfl) ?_ _
  obtain ⟨w4, hw4⟩ : ∃ w4, w4 = wd := ⟨_, rfl⟩
  rw [← hw4] at  hHeld ⊢
  clear hw4
  have F4 := Lib.hid (row_below F4.out hHeld)
  have F7 := Lib.hid (row_below F7.out hHeld)
  have HV3 := Lib.hid (HV3.out.below hHeld)
  have B1 := Lib.hid (B1.out.trans (hHeld.mono B1.out.size))
  clear hHeld LKM
  have HEE := Lib.hid (HE.out.below B1.out)
  cases q0 with
  | true =>
    have c6 := HEE.out.twice
    go_wp2_with fail
    go_ret
    exact ⟨VF.new B1.out, .inl ⟨by rw [P1.out (by first | rfl | trivial)]; decide, by rw [P1.out (by first | rfl | trivial)]; rfl, HV3.out⟩⟩
  | false =>
    go_wp2_with ((with_reducible show wpList _ _ _ _ _ _); (refine wpList_load_row rfl 49 (.tmp 4) rfl g4 rfl 49 ct.toArray (0, 0) _ F4.out Tryd.underlying49 rfl (by rw [LT.out]; kernel_rfl) ?_; go_frame))
    refine (INA.out w4 B1.out).mono ?_
    rintro e w5 ⟨rfl, bb⟩
    have F4 := Lib.hid (row_below F4.out bb)
    have F7 := Lib.hid (row_below F7.out bb)
    have HV3 := Lib.hid (HV3.out.below bb)
    have B1 := Lib.hid (B1.out.trans (bb.mono B1.out.size))
    have HEE := Lib.hid (HEE.out.below bb)
    clear bb INA
    cases q1 with
    | false =>
      have c6 := HEE.out.missing
      go_wp2_with fail
      go_ret
      exact ⟨VF.new B1.out, .inl ⟨by rw [P2.out (by first | rfl | trivial) (by first | rfl | trivial)]; decide, by rw [P2.out (by first | rfl | trivial) (by first | rfl | trivial)]; rfl, HV3.out⟩⟩
    | true =>
      go_wp2_with ((with_reducible show wpList _ _ _ _ _ _); first | (refine wpList_load_rowG 49 (.tmp 4) rfl g4 rfl 49 ct.toArray (0, 0) _ F4.out Tryd.underlying49 rfl (by rw [LT.out]; kernel_rfl) rfl ?_; go_frame) | (refine wpList_load_rowG 25 (.tmp 7) rfl g7 rfl 25 ci.toArray (0, 0) _ F7.out Tryd.underlying25 rfl (by rw [SCI.out]; kernel_rfl) rfl ?_; go_frame))
      refine (OUA.out w5 B1.out).mono ?_
      rintro e w6 ⟨rfl, bb⟩
      have F4 := Lib.hid (row_below F4.out bb)
      have F7 := Lib.hid (row_below F7.out bb)
      have HV3 := Lib.hid (HV3.out.below bb)
      have B1 := Lib.hid (B1.out.trans (bb.mono B1.out.size))
      have HEE := Lib.hid (HEE.out.below bb)
      clear bb OUA
      cases q2 with
      | true =>
        have c6 := HEE.out.missing
        go_wp2_with fail
        go_ret
        exact ⟨VF.new B1.out, .inl ⟨by rw [P3.out (by first | rfl | trivial) (by first | rfl | trivial)]; decide, by rw [P3.out (by first | rfl | trivial) (by first | rfl | trivial)]; rfl, HV3.out⟩⟩
      | false =>
        have R0 : Hid (R = 0) := P4.out (by first | rfl | trivial) (by first | rfl | trivial) (by first | rfl | trivial)
        clear P1 P2 P3 P4 HEE HE
        have V4 : Hid (VF mb sb g4) := HV3.out.rowF F4.out
        have V7 : Hid (VF mb sb g7) := HV3.out.rowF F7.out
        have c1 := (CI1.out _ _ F4.out).1
        go_wp2_with fail
        clear c1
        go_loopw [42] (fun vi wr => PvI1 b a mb sb m l made gone id xs n w6 vi wr) (fun i _ => n - (intOf i).toNat)
        case atStart => exact ⟨0, Nat.zero_le _, rfl, HV3.out, Kps.refl _ _⟩
        case round =>
          clear HV3
          obtain ⟨k, hk, rfl, hvw, hkp⟩ := hrel
          have HW := Lib.hid hvw
          have KP := Lib.hid hkp
          clear hvw hkp
          have KW : Hid (Kps (VF mb sb) w wr) := (VF.new B1.out).trans KP.out
          have F4R := Lib.hid (row_kps F4.out KP.out V4.out)
          have F7R := Lib.hid (row_kps F7.out KP.out V7.out)
          have nl := BI.out
          by_cases hlt : k < n
          · obtain ⟨x, hx⟩ : ∃ x, xs[k]? = some x := ⟨_, List.getElem?_eq_getElem (by rw [← NX.out]; exact hlt)⟩
            obtain ⟨spi', capi', e0, _, hg0⟩ := TI.out wr KW.out
            rw [← NX.out] at e0 hg0
            obtain ⟨rfl, rfl⟩ : spi = spi' ∧ capi = capi' := by cases e0; exact ⟨rfl, rfl⟩
            obtain ⟨bi, oi, rfl, hg⟩ := hg0 (by omega)
            obtain ⟨ox, kv, hkv, hr⟩ := hg k x hx
            have RX := Lib.hid hr
            have XK := Lib.hid hx
            have PX : Hid (PtOk (ptIn x)) := ⟨ox.1, ox.2.1⟩
            have LX : Hid ((inL x kv).length = 35) := inL_length x kv ox.1
            have LXS : Hid ((inL x kv).toArray.size = 35) := by show _ = _; rw [List.size_toArray]; exact LX.out
            have XA : Hid ((inL x kv).toArray.all (·.oneCell') = true) := in_one x kv (by obtain ⟨_, sp, cap, rfl⟩ := hkv; rfl)
            have KX : Hid (∀ (W : World) (g : Nat), W.heap[g]? = some (.cells (inL x kv).toArray 43 (0, 0)) → W.rangeAt g 0 (ptC (ptIn x))) := fun W g q => in_pt (range_of_box q)
            have LP : Hid ((ptC (ptIn x)).length = 33) := ptC_length ⟨ox.1, ox.2.1⟩
            have p0 : 0 ≤ (k : Int) := by omega
            have q0 : (k : Int) < (n : Int) := by omega
            obtain ⟨cx, hcx⟩ : ∃ cx, cx = inL x kv := ⟨_, rfl⟩
            rw [← hcx] at RX LX LXS XA KX
            obtain ⟨cp, hcp⟩ : ∃ cp, cp = ptC (ptIn x) := ⟨_, rfl⟩
            rw [← hcp] at KX LP
            have CP := Lib.hid hcp
            clear hx hg hg0 hkv hr ox e0 hcx hcp
            go_upto_region 10 with ((with_reducible show wpList _ _ _ _ _ _); first | (refine wpList_load_mid rfl 43 (.tmp 44) rfl bi (oi + k * 35) rfl cx _ RX.out Tryd.underlying43 rfl (by rw [LX.out]; kernel_rfl) ?_; go_frame) | (refine wpList_store_row rfl 43 (.tmp 11) (.tmp 45) rfl wr.heap.size cx.toArray rfl rfl 43 _ (heap_alloc_new _ _) (by rw [LXS.out]; kernel_rfl) (by rw [LXS.out]; rfl) XA.out ?_; go_frame))
            obtain ⟨_, f2, f3, f4⟩ := fill_setup (Below.refl wr.heap.size wr) (List.replicate 32 (bV 0) ++ [nV 0, .slice none 0 0, nV 0]).toArray cx.toArray 43
            generalize hqw8 : World.setRow _ _ _ = w8
            have ew8 : World.setRow (wr.alloc (.cells (List.replicate 32 (bV 0) ++ [nV 0, .slice none 0 0, nV 0]).toArray 43)) wr.heap.size cx.toArray = w8 := hqw8
            rw [ew8] at f2 f3 f4
            obtain ⟨g11, hg11⟩ : ∃ g11, g11 = wr.heap.size := ⟨_, rfl⟩
            rw [← hg11] at f2 ⊢
            have F11 := Lib.hid f2
            have Ng11 : Hid (wr.heap.size ≤ g11) := by show _ ≤ _; rw [hg11]; exact Nat.le_refl _
            have KQ := Lib.hid (KP.out.trans (VF.new f4))
            have F7R := Lib.hid (row_below F7R.out f4)
            have HW := Lib.hid (HW.out.below f4)
            clear f2 f3 f4 hqw8 ew8 hg11
            clear Ng11 p0 q0
            refine wp_region_held_drew (S := (fun w' => Kps (fun j => j ≠ sb) w8 w')) (by kernel_rfl) (Kps.new (Below.drew (Below.refl _ _))) (fun hHeld => ?_)
            have VD := Lib.hid (HW.out.below (Below.drew (Below.refl _ _)))
            have BD := Lib.hid (Below.drew (Below.refl w8.heap.size w8))
            generalize hwd : w8.drew = wd at VD BD hHeld ⊢
            clear hwd
            refine held_take (i := 0) (v := (.pointer (some ⟨b, 0, none⟩))) rfl (by kernel_rfl) (by kernel_rfl) (by kernel_rfl) (fun _ _ _ h => h) (Or.inl ⟨by rfl, fun w' _ => by kernel_rfl⟩) hHeld ?_
            go_frame
            refine held_take (i := 1) (v := (.pointer (some ⟨b, 0, none⟩))) rfl (by kernel_rfl) (by kernel_rfl) (by kernel_rfl) (fun _ _ _ h => h) (Or.inl ⟨by rfl, fun w' _ => by kernel_rfl⟩) hHeld ?_
            go_frame
            refine held_take (i := 2) (v := (.pointer (some ⟨b, 2, none⟩))) rfl (by kernel_rfl) (by kernel_rfl) (by kernel_rfl) (fun _ _ _ h => h) (Or.inl ⟨by rfl, fun w' _ => by kernel_rfl⟩) hHeld ?_
            go_frame
            refine held_take (i := 3) (v := (.map (some sb))) rfl (by kernel_rfl) (by kernel_rfl) (by kernel_rfl) (fun _ _ _ h => h) (yieldsIf_load_one (by rfl) 63 (.tmp 48) rfl b (2) rfl _ _ (fun w' hw' => by rw [cell_of_row _ _ _ _ _ _ (row_kps HW.out.box hw' (HW.out.gp.ne HW.out.box))]; rfl) Tryd.underlying63 rfl) hHeld ?_
            go_frame
            refine held_take (i := 4) (v := (.pointer (some ⟨g11, 0, none⟩))) rfl (by kernel_rfl) (by kernel_rfl) (by kernel_rfl) (fun _ _ _ h => h) (Or.inl ⟨by rfl, fun w' _ => by kernel_rfl⟩) hHeld ?_
            go_frame
            refine held_take (i := 5) (v := (.agg cp.toArray)) rfl (by kernel_rfl) (by kernel_rfl) (by kernel_rfl) (fun _ _ _ h => h) (Sha.yieldsIf_load_mid (by rfl) 28 (.tmp 50) rfl g11 (0) rfl cp _ (fun w' hw' => KX.out w' g11 (row_kps F11.out hw' (HW.out.gp.ne F11.out))) Tryd.underlying28 rfl (by rw [LP.out]; kernel_rfl)) hHeld ?_
            go_frame
            refine held_take (i := 6) (v := (.agg ci.toArray)) rfl (by kernel_rfl) (by kernel_rfl) (by kernel_rfl) (fun _ _ _ h => h) (yieldsIf_load_row (by rfl) 25 (.tmp 7) rfl g7 rfl 25 ci.toArray (0, 0) _ (fun w' hw' => row_kps F7R.out hw' (HW.out.gp.ne F7R.out)) Tryd.underlying25 rfl (by rw [SCI.out]; kernel_rfl)) hHeld ?_
            go_frame
            refine wpAnyH_ready (rs := [7]) (by kernel_rfl) (by simp) (held_cons rfl (fun K hK => ?_) AllReadyH.nil)
            rw [if_pos (by rfl)]
            refine wp_put_gm mty_spent (.tmp 49) (.tmp 51) (.tmp 52) rfl (ptIn x) PX.out id rfl (by show _ = Value.agg (ptC (ptIn x)).toArray; rw [← CP.out]; rfl) (by show _ = Value.agg (id.map bV).toArray; rw [← CIE.out]; rfl) VD.out.gp ?_
            intro v1 q1 q2
            have VN := Lib.hid (VD.out.putGone LID.out q2 q1)
            have KN := Lib.hid ((VF.new (mb := mb) (sb := sb) BD.out).trans (VF.gone q2))
            have hv1 : Kps (fun j => j ≠ sb) w8 v1 := hHeld.trans (Kps.grown q2 fun k _ hk e => hk (Option.some.inj e))
            clear q1 q2 hHeld VD BD
            go_frame
            refine hK.out _ _ hv1 (fun hHeld => ?_)
            clear hK K hv1
            refine wpAnyH_done (by kernel_rfl) ?_ _
            clear hHeld
            go_wp2_with fail
            go_roundw
            case rel =>
              exact ⟨k + 1, by omega, by go_num, by rw [goneV_succ gone id XK.out]; exact VN.out, KQ.out.trans KN.out⟩
            case measure => simp [intOf]; omega
          · have hkn : k = n := by omega
            subst hkn
            have HU : Hid (ViewAt wr b a m mb sb l made (goneV gone id xs)) := by
              have h := HW.out
              rw [NX.out, List.take_length] at h
              exact h
            have c2 := (CI1.out _ _ F4R.out).2
            have OKO : Hid (∀ y ∈ ys, OutOk y) := fun y hy => by
              obtain ⟨i, hi⟩ := List.getElem?_of_mem hy
              obtain ⟨_, _, _, _, h5⟩ := TO.out wr KW.out
              obtain ⟨_, _, _, h6⟩ := h5 (by have := (List.getElem?_eq_some_iff.1 hi).1; omega)
              exact (h6 i y hi).1
            clear hlt TI HW KP
            obtain ⟨u, rfl⟩ : ∃ u, u = wr := ⟨_, rfl⟩
            go_upto_region 13 with (at_make; refine wpList_make_own _ rfl _ _ 66 rfl u.heap.size 37 i0 (.agg (mnL mnZ).toArray) 35 Tryd.underlying66 hi hz0 hz1 _ _ _ no rfl rfl (by omega) (by rw [hz2]; omega) (by unfold maxLen; omega) (Nat.le_refl _) ?_; intro w9 hown hgrow; have HO0 := Lib.hid hown; have HG0 := Lib.hid hgrow; clear hown hgrow; go_frame)
            have BG : Hid (Below u.heap.size u w9) := below_made HG0.out
            have RW0 : Hid (RwOwn 35 37 u.heap.size w9 (.slice (some ⟨u.heap.size, 0, none⟩) 0 no) ((ys.take 0).map fun y => mnL (mnOf ht y))) := ⟨by simpa using HO0.out, by intro x hx; simp at hx⟩
            clear HO0 HG0 c2
            have c2 := (CI1.out _ _ (row_below F4R.out BG.out)).2
            go_wp2_with fail
            clear c2
            go_loopw [12, 61] (fun vb vi wz => PvI2 ys ht no u vb vi wz) (fun _ i _ => no - (intOf i).toNat)
            case atStart => exact ⟨0, _, rfl, by omega, rfl, RW0.out, BG.out⟩
            case round =>
              clear RW0 BG
              obtain ⟨j, vq, rfl, hj, rfl, hrw, hbz⟩ := hrel
              have RW := Lib.hid hrw
              have BB := Lib.hid hbz
              clear hrw hbz
              by_cases hlt : j < no
              · obtain ⟨y, hy⟩ : ∃ y, ys[j]? = some y := ⟨_, List.getElem?_eq_getElem (by rw [← NO.out]; exact hlt)⟩
                obtain ⟨spo', capo', e0, _, hg0⟩ := TO.out wr (KW.out.trans (VF.new BB.out))
                rw [← NO.out] at e0 hg0
                obtain ⟨rfl, rfl⟩ : spo = spo' ∧ capo = capo' := by cases e0; exact ⟨rfl, rfl⟩
                obtain ⟨bo, oo, rfl, hg⟩ := hg0 (by omega)
                obtain ⟨oy, hr⟩ := hg j y hy
                have RX := Lib.hid hr
                have YK := Lib.hid hy
                have LX : Hid ((outL y).length = 33) := outL_length y oy.1
                have LXS : Hid ((outL y).toArray.size = 33) := by show _ = _; rw [List.size_toArray]; exact LX.out
                have XA : Hid ((outL y).toArray.all (·.oneCell') = true) := by show _ = _; rw [List.all_toArray, List.all_eq_true]; exact out_mem_one y
                have KX : Hid (∀ (W : World) (g : Nat), W.heap[g]? = some (.cells (outL y).toArray 46 (0, 0)) → W.cell? ⟨g, 0, none⟩ = some (.int .u64 (y.val : Int)) ∧ W.rangeAt g (0 + 1) (y.lock.map bV)) := fun W g q => ⟨out_val (range_of_box q), out_lock (range_of_box q)⟩
                have MK : MnOk (mnOf ht y) := ⟨oy.1, oy.2, HH.out⟩
                have BT : Hid (Tryd.prog.built 37 [(0, .int .u64 (y.val : Int)), (1, .agg (y.lock.map bV).toArray), (2, .int .i64 ht)] = some (mnL (mnOf ht y)).toArray) := built_mn3 (mnOf ht y) MK rfl
                have LM : Hid ((mnL (mnOf ht y)).length = 35) := mnL_length MK
                have MO : Hid (∀ v ∈ mnL (mnOf ht y), v.oneCell' = true) := mnL_one _
                have LK : Hid ((y.lock.map bV).length = 32) := by show _ = _; rw [List.length_map]; exact oy.1
                have DL : Hid (((ys.take j).map fun y => mnL (mnOf ht y)).length ≤ 1000) := by show _ ≤ _; rw [List.length_map, List.length_take]; omega
                have YS : Hid ((ys.take (j + 1)).map (fun y => mnL (mnOf ht y)) = ((ys.take j).map fun y => mnL (mnOf ht y)) ++ [mnL (mnOf ht y)]) := by
                  show _ = _
                  rw [List.take_succ_eq_append_getElem (List.getElem?_eq_some_iff.1 hy).1, (List.getElem?_eq_some_iff.1 hy).2, List.map_append]
                  rfl
                have p0 : 0 ≤ (j : Int) := by omega
                have q0 : (j : Int) < (no : Int) := by omega
                obtain ⟨L, hL⟩ : ∃ L, L = (ys.take j).map fun y => mnL (mnOf ht y) := ⟨_, rfl⟩
                rw [← hL] at RW DL YS
                obtain ⟨cx, hcx⟩ : ∃ cx, cx = outL y := ⟨_, rfl⟩
                rw [← hcx] at RX LX LXS XA KX
                obtain ⟨cm, hcm⟩ : ∃ cm, cm = mnL (mnOf ht y) := ⟨_, rfl⟩
                rw [← hcm] at BT LM MO YS
                obtain ⟨ck, hck⟩ : ∃ ck, ck = y.lock.map bV := ⟨_, rfl⟩
                rw [← hck] at KX BT LK
                obtain ⟨yv, hyv⟩ : ∃ yv, yv = y.val := ⟨_, rfl⟩
                rw [← hyv] at KX BT
                clear hy hg hg0 hr oy e0 MK hL hcx hcm hck hyv
                go_upto_region 16 with ((with_reducible show wpList _ _ _ _ _ _); first | (refine wpList_load_mid rfl 46 (.tmp 63) rfl bo (oo + j * 33) rfl cx _ RX.out Tryd.underlying46 rfl (by rw [LX.out]; kernel_rfl) ?_; go_frame) | (refine wpList_store_row rfl 46 (.tmp 14) (.tmp 64) rfl wr.heap.size cx.toArray rfl rfl 46 _ (heap_alloc_new _ _) (by rw [LXS.out]; kernel_rfl) (by rw [LXS.out]; rfl) XA.out ?_; go_frame))
                obtain ⟨_, f2, f3, f4⟩ := fill_setup (Below.refl wr.heap.size wr) (uV 0 :: List.replicate 32 (bV 0)).toArray cx.toArray 46
                generalize hqw11 : World.setRow _ _ _ = w11
                have ew11 : World.setRow (wr.alloc (.cells (uV 0 :: List.replicate 32 (bV 0)).toArray 46)) wr.heap.size cx.toArray = w11 := hqw11
                rw [ew11] at f2 f3 f4
                obtain ⟨g14, hg14⟩ : ∃ g14, g14 = wr.heap.size := ⟨_, rfl⟩
                rw [← hg14] at f2 ⊢
                have F14 := Lib.hid f2
                have Ng14 : Hid (wr.heap.size ≤ g14) := by show _ ≤ _; rw [hg14]; exact Nat.le_refl _
                have BB := Lib.hid (BB.out.trans (f4.mono BB.out.size))
                have RW := Lib.hid (RW.out.keep f4)
                clear f2 f3 f4 hqw11 ew11 hg14
                clear Ng14 p0 q0
                have SZ : Hid (u.heap.size ≤ w11.heap.size) := BB.out.size
                have c0 := (KX.out _ _ F14.out).1
                have RL := Lib.hid (KX.out _ _ F14.out).2
                go_wp2_with ((with_reducible show wpList _ _ _ _ _ _); first | (refine wpList_load_mid rfl 25 (.tmp 68) rfl g14 (0 + 1) rfl ck _ RL.out Tryd.underlying25 rfl (by rw [LK.out]; kernel_rfl) ?_; go_frame) | (refine wpList_buildTo rfl 37 _ rfl _ rfl cm.toArray (by rw [← BT.out]; kernel_rfl) ?_; go_frame) | (refine wpList_slice_one rfl 66 37 (.tmp 71) rfl cm rfl Tryd.underlying66 i0 _ hi hz0 (by rw [hz1, LM.out]) (by rw [LM.out]; omega) (by rw [LM.out]; omega) ?_; have nf := heap_alloc_new w11 (.cells (cm).toArray 37 (0, 0)); have bb := (Below.refl w11.heap.size w11).alloc (Nat.le_refl _) (.cells (cm).toArray 37 (0, 0)); obtain ⟨gn, hgn⟩ : ∃ g, g = w11.heap.size := ⟨_, rfl⟩; generalize hq : World.alloc _ _ = w12; have e2 : w11.alloc (.cells (cm).toArray 37 (0, 0)) = w12 := hq; rw [e2] at nf bb; rw [← hgn] at nf ⊢; have NF := Lib.hid nf; have BB := Lib.hid (BB.out.trans (bb.mono BB.out.size)); have RW := Lib.hid (RW.out.keep bb); have SZ := Lib.hid (Nat.le_trans SZ.out bb.size); clear nf bb hq e2 hgn; go_frame) | (at_builtin; refine wpList_append_own_at _ rfl _ _ 66 rfl (u.heap.size) 37 i0 (.agg (mnL mnZ).toArray) 35 56 Tryd.underlying66 hi hz0 hz1 hz2 (by kernel_rfl) (by decide) vq _ (L).flatten rfl RW.out.1 ⟨gn, 0, none⟩ 1 1 (cm) rfl (by rw [LM.out]) (fun j u hj => by rw [Addr.add_mid]; exact range_of_box NF.out j u hj) MO.out (by have := DL.out; unfold maxLen; omega) (by have := DL.out; omega) (SZ.out) ?_; intro v8 w13 q1 q2 _ q4; have RW8 : Hid (RwOwn 35 37 (u.heap.size) w13 v8 ((L) ++ [cm])) := RwOwn.push RW.out.2 LM.out q1; have BB8 := Lib.hid (own_grown BB.out (Nat.le_refl _) SZ.out RW.out.1 q2); clear q1 q2 q4; go_frame))
                go_roundw
                case rel =>
                  exact ⟨j + 1, _, rfl, by omega, by go_num, by rw [YS.out]; exact RW8.out, BB8.out⟩
                case measure => simp [intOf]; omega
              · have hjn : j = no := by omega
                subst hjn
                have RW : Hid (RwOwn 35 37 u.heap.size wr vq ((ys.map (mnOf ht)).map mnL)) := by
                  have h := RW.out
                  rw [NO.out, List.take_length] at h
                  rw [List.map_map]
                  exact h
                have OKM : Hid ((∀ c ∈ ys.map (mnOf ht), MnOk c) ∧ (ys.map (mnOf ht)).length ≤ 1000) := by
                  refine ⟨fun c hc => ?_, ?_⟩
                  · obtain ⟨y, hy, rfl⟩ := List.mem_map.1 hc
                    exact ⟨(OKO.out y hy).1, (OKO.out y hy).2, HH.out⟩
                  · rw [List.length_map, ← NO.out]; exact nl.2
                have RWB : Hid (∀ g, vq.ownBlock = some g → w.heap.size ≤ g) := fun g hg => Nat.le_trans KW.out.size (RW.out.1.lt g hg).1
                have KY : Hid (Kps (VF mb sb) w wr) := KW.out.trans (VF.new BB.out)
                have F7X := Lib.hid (row_below F7R.out BB.out)
                have HX := Lib.hid (HU.out.below BB.out)
                clear hlt TO HU F7R
                go_upto_region 18 with fail
                refine wp_region_held_drew (S := (fun w' => Kps (fun q => q ≠ mb) wr w')) (by kernel_rfl) (Kps.new (Below.drew (Below.refl _ _))) (fun hHeld => ?_)
                have VD := Lib.hid (HX.out.below (Below.drew (Below.refl _ _)))
                have BD := Lib.hid (Below.drew (Below.refl wr.heap.size wr))
                have RD := Lib.hid (RW.out.keep (Below.drew (Below.refl wr.heap.size wr)))
                generalize hwd : wr.drew = wd at VD BD RD hHeld ⊢
                clear hwd
                refine held_take (i := 0) (v := (.pointer (some ⟨b, 0, none⟩))) rfl (by kernel_rfl) (by kernel_rfl) (by kernel_rfl) (fun _ _ _ h => h) (Or.inl ⟨by rfl, fun w' _ => by kernel_rfl⟩) hHeld ?_
                go_frame
                refine held_take (i := 1) (v := (.pointer (some ⟨b, 0, none⟩))) rfl (by kernel_rfl) (by kernel_rfl) (by kernel_rfl) (fun _ _ _ h => h) (Or.inl ⟨by rfl, fun w' _ => by kernel_rfl⟩) hHeld ?_
                go_frame
                refine held_take (i := 2) (v := (.pointer (some ⟨b, 1, none⟩))) rfl (by kernel_rfl) (by kernel_rfl) (by kernel_rfl) (fun _ _ _ h => h) (Or.inl ⟨by rfl, fun w' _ => by kernel_rfl⟩) hHeld ?_
                go_frame
                refine held_take (i := 3) (v := (.map (some mb))) rfl (by kernel_rfl) (by kernel_rfl) (by kernel_rfl) (fun _ _ _ h => h) (yieldsIf_load_one (by rfl) 62 (.tmp 77) rfl b (1) rfl _ _ (fun w' hw' => by rw [cell_of_row _ _ _ _ _ _ (row_kps HX.out.box hw' (HX.out.mp.ne HX.out.box))]; rfl) Tryd.underlying62 rfl) hHeld ?_
                go_frame
                refine held_take (i := 4) (v := (.agg ci.toArray)) rfl (by kernel_rfl) (by kernel_rfl) (by kernel_rfl) (fun _ _ _ h => h) (yieldsIf_load_row (by rfl) 25 (.tmp 7) rfl g7 rfl 25 ci.toArray (0, 0) _ (fun w' hw' => row_kps F7X.out hw' (HX.out.mp.ne F7X.out)) Tryd.underlying25 rfl (by rw [SCI.out]; kernel_rfl)) hHeld ?_
                go_frame
                refine held_take (i := 5) (v := vq) rfl (by kernel_rfl) (by kernel_rfl) (by kernel_rfl) (fun _ _ _ h => h) (Or.inl ⟨by rfl, fun w' _ => by kernel_rfl⟩) hHeld ?_
                go_frame
                refine wpAnyH_ready (rs := [6]) (by kernel_rfl) (by simp) (held_cons rfl (fun K hK => ?_) AllReadyH.nil)
                rw [if_pos (by rfl)]
                refine wp_put_gm mty_made (.tmp 78) (.tmp 79) (.tmp 80) rfl id LID.out (vq, ys.map (mnOf ht)) rfl (by show _ = Value.agg (id.map bV).toArray; rw [← CIE.out]; rfl) rfl VD.out.mp ?_
                intro v1 q1 q2
                unfold putG at q1
                rw [GN.out (by first | rfl | trivial)] at q1
                have VN := Lib.hid (VD.out.setMade q2 q1 (fun y hy => (List.mem_append.1 hy).elim (fun hy => VD.out.outs y hy) (fun hy => by rw [List.mem_singleton.1 hy]; exact ⟨⟨Joins.ownsRow_le RD.out.1 (Nat.zero_le _), RD.out.2⟩, OKM.out⟩)))
                have KN := Lib.hid ((VF.new (mb := mb) (sb := sb) BD.out).trans (VF.made q2))
                have hv1 : Kps (fun q => q ≠ mb) wr v1 := hHeld.trans (Kps.grown q2 fun k _ hk e => hk (Option.some.inj e))
                clear q1 q2 hHeld VD BD RD
                go_frame
                refine hK.out _ _ hv1 (fun hHeld => ?_)
                clear hK K hv1
                refine wpAnyH_done (by kernel_rfl) ?_ _
                clear hHeld
                go_wp2_with fail
                go_ret
                refine ⟨KY.out.trans KN.out, .inr ⟨R0.out, rfl, vq, VN.out, RWB.out⟩⟩
end Go.Proofs.YtgcoegbamoehfaaDoor.Sha
