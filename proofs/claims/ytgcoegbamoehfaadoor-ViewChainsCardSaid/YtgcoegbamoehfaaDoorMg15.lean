/-
  Texts of this proof joined into one file: VwTake, ShaFast, VcMath, TxKeys, TxAdds. What each holds, and under which conditions, its own first sentence tells.
-/
import Derived.Test.YtgcoegbamoehfaaDoorMg14
import Derived.Test.YtgcoegbamoehfaaDoorMg02
import Derived.Test.YtgcoegbamoehfaaDoorMg06
import Derived.Test.YtgcoegbamoehfaaDoorMg05
import Derived.Test.YtgcoegbamoehfaaDoorMg04
/-
  Package view: a transaction is taken away; its two maps alone turn. Conditions: as for Put.
-/
namespace Go.Proofs.YtgcoegbamoehfaaDoor.Sha
open Go Go.RowKit
/-- Is one of the outputs spent? -/
def outGone (gone : Gone) (id : List UInt8) (n : Nat) : Bool := (List.range n).any fun i => (getG gone ⟨id, i⟩).isSome
def takeV (made : Made) (gone : Gone) (t : TTx) : Nat := if (getG made (idV t)).isSome then if outGone gone (idV t) t.outs.length then 13 else 0 else 23
def goneT (gone : Gone) (xs : List TIn) : Gone := xs.foldl (fun g x => delG g (ptIn x)) gone
theorem goneT_succ (gone : Gone) {xs : List TIn} {k : Nat} {x : TIn} (h : xs[k]? = some x) : goneT gone (xs.take (k + 1)) = delG (goneT gone (xs.take k)) (ptIn x) := by
  have hk := (List.getElem?_eq_some_iff.1 h).1
  unfold goneT
  rw [List.take_succ_eq_append_getElem hk, (List.getElem?_eq_some_iff.1 h).2, List.foldl_append]
  rfl
theorem delG_mem {α β : Type} [DecidableEq α] {l : List (α × β)} {a : α} {x : α × β} (h : x ∈ delG l a) : x ∈ l := (List.mem_filter.1 h).1
def PtI0 (n : Nat) (no : Nat → Bool) (w : World) (vi : Value) (wr : World) : Prop :=
  ∃ k : Nat, k ≤ n ∧ vi = .int .i64 (k : Int) ∧ (∀ i, i < k → no i = false) ∧ Below w.heap.size w wr
def PtI1 (b a mb sb : Nat) (m : Option Nat) (l : List TSp) (made : Made) (gone : Gone) (xs : List TIn) (n : Nat) (w : World) (vi : Value) (wr : World) : Prop :=
  ∃ k : Nat, k ≤ n ∧ vi = .int .i64 (k : Int) ∧ ViewAt wr b a m mb sb l made (goneT gone (xs.take k)) ∧ Kps (VF mb sb) w wr
/-- What Take leaves. -/
def PtPost (E : Nat → Addr) (b a mb sb : Nat) (m : Option Nat) (l : List TSp) (made : Made) (gone : Gone) (t : TTx) (w : World) (e : Ending) (w' : World) : Prop :=
  Kps (VF mb sb) w w' ∧ ((takeV made gone t ≠ 0 ∧ e = .returned (errV E (takeV made gone t)) ∧ ViewAt w' b a m mb sb l made gone) ∨
    (takeV made gone t = 0 ∧ e = .returned .nilIface ∧ ViewAt w' b a m mb sb l (delG made (idV t)) (goneT gone t.ins)))
set_option maxHeartbeats 8000000 in
set_option maxRecDepth 100000 in
theorem vwtake_any (E : Nat → Addr) (w : World) (b a mb sb : Nat) (m : Option Nat) (l : List TSp) (made : Made) (gone : Gone) (t : TTx) (iv ov : Value) (hv : ViewAt w b a m mb sb l made gone) (hE : VE w E) (hT : Sty (VF mb sb) w fun W => TxAt W (.agg (txL t iv ov).toArray) t) (hk : ∀ W, Below w.heap.size w W → KTab W) (hs : TxSmall t) :
    Calls Tryd.prog 12 #[.pointer (some ⟨b, 0, none⟩), .agg (txL t iv ov).toArray] w (PtPost E b a mb sb m l made gone t w) := by
  have HV := Lib.hid hv
  have HE := Lib.hid hE
  have TI : Hid (∀ W, Kps (VF mb sb) w W → InsAt W iv t.ins) := fun W hW => (vtx_parts (hT W hW)).1
  have TONE : Hid ((txL t iv ov).toArray.all (·.oneCell') = true) := tx_one (vtx_parts hT.now).1 (vtx_parts hT.now).2
  have IA : Hid (∀ W, Below w.heap.size w W → Calls Tryd.prog 18 #[.agg (txL t iv ov).toArray] W fun e w' => e = .returned (.agg ((idV t).map bV).toArray) ∧ Below W.heap.size W w') := fun W hW => id_of bytes_all t _ W (hk W hW) (hT W (Kps.new hW)) hs
  have LID : Hid ((idV t).length = 32) := sha_length _
  have LT : Hid ((txL t iv ov).toArray.size = 4) := rfl
  have CI1 : Hid (∀ (W : World) (g : Nat), W.heap[g]? = some (.cells (txL t iv ov).toArray 49 (0, 0)) → W.cell? ⟨g, 1, none⟩ = some iv ∧ W.cell? ⟨g, 2, none⟩ = some ov) := fun W g hg => ⟨(tx_cells hg).2.1, (tx_cells hg).2.2.1⟩
  have LKM : Hid (∀ W, Below w.heap.size w W → (Instr.lookup 62 (.map (some mb)) (.agg ((idV t).map bV).toArray) true).run Tryd.prog W = .ok (.tuple #[((getG made (idV t)).getD (.slice none 0 0, [])).1, .bool (getG made (idV t)).isSome]) W) := fun W hW => gm_look mty_made (hv.below hW).mp (idV t) (sha_length _)
  obtain ⟨no, hno⟩ : ∃ no : Nat → Bool, no = fun i => (getG gone ⟨idV t, i⟩).isSome := ⟨_, rfl⟩
  have LKG : Hid (∀ (k : Nat) W, k ≤ 1000 → Below w.heap.size w W → (Instr.lookup 63 (.map (some sb)) (.agg (ptC ⟨idV t, k⟩).toArray) true).run Tryd.prog W = .ok (.tuple #[.agg (((getG gone ⟨idV t, k⟩).getD zH).map bV).toArray, .bool (no k)]) W) := fun k W hk hW => by
    rw [hno]
    exact gm_look mty_spent (hv.below hW).gp ⟨idV t, k⟩ ⟨sha_length _, by show k ≤ _; omega⟩
  have LGG : Hid (∀ k, ((getG gone ⟨idV t, k⟩).getD zH).length = 32) := fun k => by
    cases hg : getG gone ⟨idV t, k⟩ with
    | none => rfl
    | some i => exact hv.ids _ (getG_mem hg)
  have PL : Hid (∀ (k : Nat) W, k ≤ 1000 → Calls Tryd.prog 23 #[.agg ((idV t).map bV).toArray, .int .i64 (k : Int)] W fun e w' => e = .returned (.agg (ptC ⟨idV t, k⟩).toArray) ∧ Below W.heap.size W w') := fun k W hk => vwplace_any (idV t) k (sha_length _) (by omega) W
  have P1 : Hid ((getG made (idV t)).isSome = false → takeV made gone t = 23) := fun h => by unfold takeV; rw [if_neg (by rw [h]; decide)]
  have P2 : Hid (∀ k, (getG made (idV t)).isSome = true → k < t.outs.length → no k = true → takeV made gone t = 13) := fun k h hk h2 => by
    unfold takeV
    rw [if_pos h, if_pos (by unfold outGone; rw [List.any_eq_true]; exact ⟨k, List.mem_range.2 hk, by rw [hno] at h2; exact h2⟩)]
  have P3 : Hid ((getG made (idV t)).isSome = true → (∀ i, i < t.outs.length → no i = false) → takeV made gone t = 0) := fun h h2 => by
    unfold takeV
    rw [if_pos h, if_neg]
    unfold outGone
    rw [Bool.not_eq_true, List.any_eq_false]
    intro i hi
    have := h2 i (List.mem_range.1 hi)
    rw [hno] at this
    simpa using this
  obtain ⟨spi, capi, hsv⟩ : ∃ sp cap, iv = .slice sp t.ins.length cap := by
    obtain ⟨sp, cap, e, _⟩ := (vtx_parts hT.now).1
    exact ⟨sp, cap, e⟩
  obtain ⟨spo, capo, hov⟩ : ∃ sp cap, ov = .slice sp t.outs.length cap := by
    obtain ⟨sp, cap, e, _⟩ := (vtx_parts hT.now).2
    exact ⟨sp, cap, e⟩
  have BI : Hid (t.ins.length ≤ 1000 ∧ t.outs.length ≤ 1000) := ⟨hs.2.1, hs.2.2.1⟩
  unfold PtPost
  obtain ⟨R, hR⟩ : ∃ R, R = takeV made gone t := ⟨_, rfl⟩
  rw [← hR] at P1 P2 P3 ⊢
  obtain ⟨q0, hq0⟩ : ∃ q0, q0 = (getG made (idV t)).isSome := ⟨_, rfl⟩
  rw [← hq0] at LKM P1 P2 P3
  obtain ⟨v0, hv0⟩ : ∃ v0, v0 = ((getG made (idV t)).getD (.slice none 0 0, [])).1 := ⟨_, rfl⟩
  rw [← hv0] at LKM
  obtain ⟨id, hid⟩ : ∃ id, id = idV t := ⟨_, rfl⟩
  rw [← hid] at IA LID LKM LKG LGG PL ⊢
  obtain ⟨xs, hxs⟩ : ∃ xs, xs = t.ins := ⟨_, rfl⟩
  rw [← hxs] at TI hsv BI ⊢
  obtain ⟨n, hn1⟩ : ∃ n, n = xs.length := ⟨_, rfl⟩
  obtain ⟨nu, hnu⟩ : ∃ nu, nu = t.outs.length := ⟨_, rfl⟩
  rw [← hn1] at hsv BI
  rw [← hnu] at hov BI P2 P3
  have NX := Lib.hid hn1
  obtain ⟨ct, hct⟩ : ∃ ct, ct = txL t iv ov := ⟨_, rfl⟩
  rw [← hct] at TONE IA LT CI1 ⊢
  rw [hsv, hov] at CI1
  rw [hsv] at TI
  have LCI : Hid ((id.map bV).length = 32) := by show _ = _; rw [List.length_map]; exact LID.out
  have SCI : Hid ((id.map bV).toArray.size = 32) := by show _ = _; rw [List.size_toArray]; exact LCI.out
  have ACI : Hid ((id.map bV).toArray.all (·.oneCell') = true) := bV_one _
  obtain ⟨ci, hci⟩ : ∃ ci, ci = id.map bV := ⟨_, rfl⟩
  rw [← hci] at IA LKM PL LCI SCI ACI
  have CIE := Lib.hid hci
  clear hv hE hT hk hs hR hq0 hv0 hid hxs hn1 hnu hct hsv hov hci hno
  go_enter Tryd.func12, Tryd.ntmps12
  go_upto_region 1 with fail
  have f3 := heap_alloc_new w (.cells ct.toArray 49 (0, 0))
  have b1 := (Below.refl w.heap.size w).alloc (Nat.le_refl _) (.cells ct.toArray 49 (0, 0))
  generalize hw1 : World.alloc _ _ = w1
  have e1 : w.alloc (.cells ct.toArray 49 (0, 0)) = w1 := hw1
  rw [e1] at f3 b1
  obtain ⟨g3, hg3⟩ : ∃ g3, g3 = w.heap.size := ⟨_, rfl⟩
  rw [← hg3] at f3 ⊢
  have F3 := Lib.hid f3
  have B1 := Lib.hid b1
  clear f3 b1 hw1 e1 hg3
  go_wp2_with ((with_reducible show wpList _ _ _ _ _ _); (refine wpList_load_row rfl 49 (.tmp 3) rfl g3 rfl 49 ct.toArray (0, 0) _ F3.out Tryd.underlying49 rfl (by rw [LT.out]; kernel_rfl) ?_; go_frame))
  refine (IA.out w1 B1.out).mono ?_
  rintro e w2 ⟨rfl, bb⟩
  have F3 := Lib.hid (row_below F3.out bb)
  have B1 := Lib.hid (B1.out.trans (bb.mono B1.out.size))
  clear bb IA
  go_upto_region 2 with ((with_reducible show wpList _ _ _ _ _ _); (refine wpList_store_row rfl 25 (.tmp 5) (.tmp 14) rfl w2.heap.size ci.toArray rfl rfl 25 _ (heap_alloc_new _ _) (by rw [SCI.out]; kernel_rfl) (by rw [SCI.out]; rfl) ACI.out ?_; go_frame))
  obtain ⟨_, f2, f3, f4⟩ := fill_setup (Below.refl w2.heap.size w2) (List.replicate 32 (bV 0)).toArray ci.toArray 25
  generalize hqw3 : World.setRow _ _ _ = w3
  have ew3 : World.setRow (w2.alloc (.cells (List.replicate 32 (bV 0)).toArray 25)) w2.heap.size ci.toArray = w3 := hqw3
  rw [ew3] at f2 f3 f4
  obtain ⟨g5, hg5⟩ : ∃ g5, g5 = w2.heap.size := ⟨_, rfl⟩
  rw [← hg5] at f2 ⊢
  have F5 := Lib.hid f2
  have Ng5 : Hid (w2.heap.size ≤ g5) := by show _ ≤ _; rw [hg5]; exact Nat.le_refl _
  have F3 := Lib.hid (row_below F3.out f4)
  have B1 := Lib.hid (B1.out.trans (f4.mono B1.out.size))
  clear f2 f3 f4 hqw3 ew3 hg5
  have HV3 := Lib.hid (HV.out.below B1.out)
  clear Ng5
  refine wp_region_held_drew (S := (fun w' => Below w3.heap.size w3 w')) (by kernel_rfl) (Below.drew (Below.refl _ _)) (fun hHeld => ?_)
  generalize hwd : w3.drew = wd at  hHeld ⊢
  clear hwd
  refine held_take (i := 0) (v := (.pointer (some ⟨b, 0, none⟩))) rfl (by kernel_rfl) (by kernel_rfl) (by kernel_rfl) (fun _ _ _ h => h) (Or.inl ⟨by rfl, fun w' _ => by kernel_rfl⟩) hHeld ?_
  go_frame
  refine held_take (i := 1) (v := (.pointer (some ⟨b, 0, none⟩))) rfl (by kernel_rfl) (by kernel_rfl) (by kernel_rfl) (fun _ _ _ h => h) (Or.inl ⟨by rfl, fun w' _ => by kernel_rfl⟩) hHeld ?_
  go_frame
  refine held_take (i := 2) (v := (.pointer (some ⟨b, 1, none⟩))) rfl (by kernel_rfl) (by kernel_rfl) (by kernel_rfl) (fun _ _ _ h => h) (Or.inl ⟨by rfl, fun w' _ => by kernel_rfl⟩) hHeld ?_
  go_frame
  refine held_take (i := 3) (v := (.map (some mb))) rfl (by kernel_rfl) (by kernel_rfl) (by kernel_rfl) (fun _ _ _ h => h) (yieldsIf_load_one (by rfl) 62 (.tmp 18) rfl b (1) rfl _ _ (fun w' hw' => (HV3.out.below hw').mcell) Tryd.underlying62 rfl) hHeld ?_
  go_frame
  refine held_take (i := 4) (v := (.agg ci.toArray)) rfl (by kernel_rfl) (by kernel_rfl) (by kernel_rfl) (fun _ _ _ h => h) (yieldsIf_load_row (by rfl) 25 (.tmp 5) rfl g5 rfl 25 ci.toArray (0, 0) _ (fun w' hw' => row_below F5.out hw') Tryd.underlying25 rfl (by rw [SCI.out]; kernel_rfl)) hHeld ?_
  go_frame
  refine held_take (i := 5) (v := (.tuple #[v0, .bool q0])) rfl (by kernel_rfl) (by kernel_rfl) (by kernel_rfl) (fun _ _ _ h => h) (yieldsIf_lookup (by rfl) 62 (.tmp 19) (.tmp 20) true rfl _ _ _ rfl rfl (fun w' hw' => LKM.out w' (B1.out.trans (hw'.mono B1.out.size)))) hHeld ?_
  go_frame
  refine held_take (i := 6) (v := (.tuple #[v0, .bool q0])) rfl (by kernel_rfl) (by kernel_rfl) (by kernel_rfl) (fun _ _ _ h => h) (Or.inl ⟨by rfl, fun w' _ => by kernel_rfl⟩) hHeld ?_
  go_frame
  refine held_take (i := 7) (v := v0) rfl (by kernel_rfl) (by kernel_rfl) (by kernel_rfl) (fun _ _ _ h => h) (Or.inl ⟨by rfl, fun w' _ => by kernel_rfl⟩) hHeld ?_
  go_frame
  refine held_take (i := 8) (v := (.bool q0)) rfl (by kernel_rfl) (by kernel_rfl) (by kernel_rfl) (fun _ _ _ h => h) (Or.inl ⟨by rfl, fun w' _ => by kernel_rfl⟩) hHeld ?_
  go_frame
  refine held_take (i := 9) (v := v0) rfl (by kernel_rfl) (by kernel_rfl) (by kernel_rfl) (fun _ _ _ h => h) (Or.inl ⟨by rfl, fun w' _ => by kernel_rfl⟩) hHeld ?_
  go_frame
  refine held_take (i := 10) (v := (.bool q0)) rfl (by kernel_rfl) (by kernel_rfl) (by kernel_rfl) (fun _ _ _ h => h) (Or.inl ⟨by rfl, fun w' _ => by kernel_rfl⟩) hHeld ?_
  go_frame
  refine wpAnyH_done (by kernel_rfl) ?_ _
  obtain ⟨w4, hw4⟩ : ∃ w4, w4 = wd := ⟨_, rfl⟩
  rw [← hw4] at  hHeld ⊢
  clear hw4
  have F3 := Lib.hid (row_below F3.out hHeld)
  have F5 := Lib.hid (row_below F5.out hHeld)
  have HV3 := Lib.hid (HV3.out.below hHeld)
  have B1 := Lib.hid (B1.out.trans (hHeld.mono B1.out.size))
  clear hHeld LKM
  have HEE := Lib.hid (HE.out.below B1.out)
  cases q0 with
  | false =>
    have c6 := HEE.out.none_
    go_wp2_with fail
    go_ret
    exact ⟨VF.new B1.out, .inl ⟨by rw [P1.out (by first | rfl | trivial)]; decide, by rw [P1.out (by first | rfl | trivial)]; rfl, HV3.out⟩⟩
  | true =>
    have c2 := (CI1.out _ _ F3.out).2
    go_wp2_with fail
    clear c2
    go_loopw [30] (fun vi wr => PtI0 nu no w4 vi wr) (fun i _ => nu - (intOf i).toNat)
    case atStart => exact ⟨0, Nat.zero_le _, rfl, fun i hi => absurd hi (Nat.not_lt_zero _), Below.refl _ _⟩
    case round =>
      obtain ⟨k, hk, rfl, hall, hbw⟩ := hrel
      have AL := Lib.hid hall
      have BB := Lib.hid hbw
      have KB := Lib.hid (B1.out.trans (hbw.mono B1.out.size))
      have HW := Lib.hid (HV3.out.below hbw)
      have F5R := Lib.hid (row_below F5.out hbw)
      have nl := BI.out
      clear hall
      by_cases hlt : k < nu
      · clear hbw
        have PX : Hid (∀ W, Calls Tryd.prog 23 #[.agg ci.toArray, .int .i64 (k : Int)] W fun e w' => e = .returned (.agg (ptC ⟨id, k⟩).toArray) ∧ Below W.heap.size W w') := fun W => PL.out k W (by omega)
        have LX : Hid (∀ W, Below w.heap.size w W → (Instr.lookup 63 (.map (some sb)) (.agg (ptC ⟨id, k⟩).toArray) true).run Tryd.prog W = .ok (.tuple #[.agg (((getG gone ⟨id, k⟩).getD zH).map bV).toArray, .bool (no k)]) W) := fun W hW => LKG.out k W (by omega) hW
        have LCK : Hid ((((getG gone ⟨id, k⟩).getD zH).map bV).length = 32) := by show _ = _; rw [List.length_map]; exact LGG.out k
        have ACK : Hid ((((getG gone ⟨id, k⟩).getD zH).map bV).toArray.all (·.oneCell') = true) := bV_one _
        obtain ⟨ck, hck⟩ : ∃ ck, ck = ((getG gone ⟨id, k⟩).getD zH).map bV := ⟨_, rfl⟩
        rw [← hck] at LX LCK ACK
        obtain ⟨cp, hcp⟩ : ∃ cp, cp = ptC ⟨id, k⟩ := ⟨_, rfl⟩
        rw [← hcp] at PX LX
        obtain ⟨q, hq⟩ : ∃ q, q = no k := ⟨_, rfl⟩
        have OQ : Hid (no k = q) := hq.symm
        rw [← hq] at LX
        clear hck hcp hq
        go_upto_region 8 with fail
        refine wp_region_held_drew (S := (fun w' => Below wr.heap.size wr w')) (by kernel_rfl) (Below.drew (Below.refl _ _)) (fun hHeld => ?_)
        generalize hwd : wr.drew = wd at  hHeld ⊢
        clear hwd
        refine held_take (i := 0) (v := (.pointer (some ⟨b, 0, none⟩))) rfl (by kernel_rfl) (by kernel_rfl) (by kernel_rfl) (fun _ _ _ h => h) (Or.inl ⟨by rfl, fun w' _ => by kernel_rfl⟩) hHeld ?_
        go_frame
        refine held_take (i := 1) (v := (.pointer (some ⟨b, 0, none⟩))) rfl (by kernel_rfl) (by kernel_rfl) (by kernel_rfl) (fun _ _ _ h => h) (Or.inl ⟨by rfl, fun w' _ => by kernel_rfl⟩) hHeld ?_
        go_frame
        refine held_take (i := 2) (v := (.pointer (some ⟨b, 2, none⟩))) rfl (by kernel_rfl) (by kernel_rfl) (by kernel_rfl) (fun _ _ _ h => h) (Or.inl ⟨by rfl, fun w' _ => by kernel_rfl⟩) hHeld ?_
        go_frame
        refine held_take (i := 3) (v := (.map (some sb))) rfl (by kernel_rfl) (by kernel_rfl) (by kernel_rfl) (fun _ _ _ h => h) (yieldsIf_load_one (by rfl) 63 (.tmp 36) rfl b (2) rfl _ _ (fun w' hw' => (HW.out.below hw').scell) Tryd.underlying63 rfl) hHeld ?_
        go_frame
        refine held_take (i := 4) (v := (.agg ci.toArray)) rfl (by kernel_rfl) (by kernel_rfl) (by kernel_rfl) (fun _ _ _ h => h) (yieldsIf_load_row (by rfl) 25 (.tmp 5) rfl g5 rfl 25 ci.toArray (0, 0) _ (fun w' hw' => row_below F5R.out hw') Tryd.underlying25 rfl (by rw [SCI.out]; kernel_rfl)) hHeld ?_
        go_frame
        refine held_take (i := 5) (v := (.int .i64 (k : Int))) rfl (by kernel_rfl) (by kernel_rfl) (by kernel_rfl) (fun _ _ _ h => h) (Or.inl ⟨by rfl, fun w' _ => by kernel_rfl⟩) hHeld ?_
        go_frame
        refine wpAnyH_ready (rs := [6, 11]) (by kernel_rfl) (by simp) (held_cons rfl (fun K hK => ?_) (held_cons rfl (fun K hK => ?_) AllReadyH.nil))
        · skip
          go_simp
          refine (PX.out _).mono ?_
          rintro e v1 ⟨rfl, bb⟩
          have hv1 := hHeld.trans (bb.mono hHeld.size)
          clear bb hHeld
          go_wp2_with fail
          refine hK.out _ _ hv1 (fun hHeld => ?_)
          clear hK K hv1
          refine held_take (i := 7) (v := (.tuple #[.agg ck.toArray, .bool q])) rfl (by kernel_rfl) (by kernel_rfl) (by kernel_rfl) (fun _ _ _ h => h) (yieldsIf_lookup (by rfl) 63 (.tmp 37) (.tmp 40) true rfl _ _ _ rfl rfl (fun w' hw' => LX.out w' (KB.out.trans (hw'.mono KB.out.size)))) hHeld ?_
          go_frame
          refine held_take (i := 8) (v := (.tuple #[.agg ck.toArray, .bool q])) rfl (by kernel_rfl) (by kernel_rfl) (by kernel_rfl) (fun _ _ _ h => h) (Or.inl ⟨by rfl, fun w' _ => by kernel_rfl⟩) hHeld ?_
          go_frame
          refine held_take (i := 9) (v := (.agg ck.toArray)) rfl (by kernel_rfl) (by kernel_rfl) (by kernel_rfl) (fun _ _ _ h => h) (Or.inl ⟨by rfl, fun w' _ => by kernel_rfl⟩) hHeld ?_
          go_frame
          refine held_take (i := 10) (v := (.bool q)) rfl (by kernel_rfl) (by kernel_rfl) (by kernel_rfl) (fun _ _ _ h => h) (Or.inl ⟨by rfl, fun w' _ => by kernel_rfl⟩) hHeld ?_
          go_frame
          refine wpAnyH_ready (rs := [11]) (by kernel_rfl) (by simp) (held_cons rfl (fun K hK => ?_) AllReadyH.nil)
          go_simp
          have nf := heap_alloc_new v1 (.cells (List.replicate 32 (bV 0)).toArray 25 (0, 0))
          have bb := (Below.refl v1.heap.size v1).alloc (Nat.le_refl _) (.cells (List.replicate 32 (bV 0)).toArray 25 (0, 0))
          obtain ⟨gv2, hgv2⟩ : ∃ g, g = v1.heap.size := ⟨_, rfl⟩
          have GF9 : Hid (wr.heap.size ≤ gv2) := by show _ ≤ _; rw [hgv2]; exact hHeld.size
          generalize hqv2 : World.alloc _ _ = v2
          have ev2 : v1.alloc (.cells (List.replicate 32 (bV 0)).toArray 25 (0, 0)) = v2 := hqv2
          rw [ev2] at nf bb
          rw [← hgv2] at nf ⊢
          have F9 := Lib.hid nf
          have hv2 := hHeld.trans (bb.mono hHeld.size)
          clear nf bb hqv2 ev2 hgv2 hHeld
          refine hK.out _ _ hv2 (fun hHeld => ?_)
          clear hK K hv2
          refine wpAnyH_ready (rs := [12]) (by kernel_rfl) (by simp) (held_cons rfl (fun K hK => ?_) AllReadyH.nil)
          rw [if_pos (by rfl)]
          refine wp_store_whole 25 (.tmp 9) (.tmp 42) rfl gv2 (List.replicate 32 (bV 0)) ck 25 rfl rfl (by rw [LCK.out]; rfl) F9.out (by rw [LCK.out]; kernel_rfl) (ACK.out) ?_
          intro v3 q1 q2
          have F9 := Lib.hid q1
          have hv3 := hHeld.grown q2 hHeld.size (fun k hk => by cases hk; exact GF9.out)
          clear q1 q2 hHeld
          go_frame
          refine hK.out _ _ hv3 (fun hHeld => ?_)
          clear hK K hv3
          refine held_take (i := 13) (v := (.bool q)) rfl (by kernel_rfl) (by kernel_rfl) (by kernel_rfl) (fun _ _ _ h => h) (Or.inl ⟨by rfl, fun w' _ => by kernel_rfl⟩) hHeld ?_
          go_frame
          refine wpAnyH_done (by kernel_rfl) ?_ _
          obtain ⟨w9, hw9⟩ : ∃ w9, w9 = v3 := ⟨_, rfl⟩
          rw [← hw9] at  hHeld ⊢
          clear hw9
          have BX := Lib.hid (BB.out.trans (hHeld.mono BB.out.size))
          have KB := Lib.hid (KB.out.trans (hHeld.mono KB.out.size))
          have HW := Lib.hid (HW.out.below hHeld)
          have HEE := Lib.hid (HEE.out.below BX.out)
          clear hHeld F9 PX LX
          cases q with
          | true =>
            have c6 := HEE.out.missing
            go_wp2_with fail
            go_ret
            exact ⟨VF.new KB.out, .inl ⟨by rw [P2.out k (by first | rfl | trivial) hlt OQ.out]; decide, by rw [P2.out k (by first | rfl | trivial) hlt OQ.out]; rfl, HW.out⟩⟩
          | false =>
            go_wp2_with fail
            go_roundw
            case rel =>
              refine ⟨k + 1, by omega, by go_num, fun i hi => ?_, BX.out⟩
              rcases Nat.lt_or_eq_of_le (Nat.lt_succ_iff.1 hi) with h | rfl
              · exact AL.out i h
              · exact OQ.out
            case measure => simp [intOf]; omega
        · skip
          go_simp
          have nf := heap_alloc_new wd (.cells (List.replicate 32 (bV 0)).toArray 25 (0, 0))
          have bb := (Below.refl wd.heap.size wd).alloc (Nat.le_refl _) (.cells (List.replicate 32 (bV 0)).toArray 25 (0, 0))
          obtain ⟨gv4, hgv4⟩ : ∃ g, g = wd.heap.size := ⟨_, rfl⟩
          have GF9 : Hid (wr.heap.size ≤ gv4) := by show _ ≤ _; rw [hgv4]; exact hHeld.size
          generalize hqv4 : World.alloc _ _ = v4
          have ev4 : wd.alloc (.cells (List.replicate 32 (bV 0)).toArray 25 (0, 0)) = v4 := hqv4
          rw [ev4] at nf bb
          rw [← hgv4] at nf ⊢
          have F9 := Lib.hid nf
          have hv4 := hHeld.trans (bb.mono hHeld.size)
          clear nf bb hqv4 ev4 hgv4 hHeld
          refine hK.out _ _ hv4 (fun hHeld => ?_)
          clear hK K hv4
          refine wpAnyH_ready (rs := [6]) (by kernel_rfl) (by simp) (held_cons rfl (fun K hK => ?_) AllReadyH.nil)
          go_simp
          refine (PX.out _).mono ?_
          rintro e v5 ⟨rfl, bb⟩
          have F9 := Lib.hid (row_below F9.out bb)
          have hv5 := hHeld.trans (bb.mono hHeld.size)
          clear bb hHeld
          go_wp2_with fail
          refine hK.out _ _ hv5 (fun hHeld => ?_)
          clear hK K hv5
          refine held_take (i := 7) (v := (.tuple #[.agg ck.toArray, .bool q])) rfl (by kernel_rfl) (by kernel_rfl) (by kernel_rfl) (fun _ _ _ h => h) (yieldsIf_lookup (by rfl) 63 (.tmp 37) (.tmp 40) true rfl _ _ _ rfl rfl (fun w' hw' => LX.out w' (KB.out.trans (hw'.mono KB.out.size)))) hHeld ?_
          go_frame
          refine held_take (i := 8) (v := (.tuple #[.agg ck.toArray, .bool q])) rfl (by kernel_rfl) (by kernel_rfl) (by kernel_rfl) (fun _ _ _ h => h) (Or.inl ⟨by rfl, fun w' _ => by kernel_rfl⟩) hHeld ?_
          go_frame
          refine held_take (i := 9) (v := (.agg ck.toArray)) rfl (by kernel_rfl) (by kernel_rfl) (by kernel_rfl) (fun _ _ _ h => h) (Or.inl ⟨by rfl, fun w' _ => by kernel_rfl⟩) hHeld ?_
          go_frame
          refine held_take (i := 10) (v := (.bool q)) rfl (by kernel_rfl) (by kernel_rfl) (by kernel_rfl) (fun _ _ _ h => h) (Or.inl ⟨by rfl, fun w' _ => by kernel_rfl⟩) hHeld ?_
          go_frame
          refine wpAnyH_ready (rs := [12]) (by kernel_rfl) (by simp) (held_cons rfl (fun K hK => ?_) AllReadyH.nil)
          rw [if_pos (by rfl)]
          refine wp_store_whole 25 (.tmp 9) (.tmp 42) rfl gv4 (List.replicate 32 (bV 0)) ck 25 rfl rfl (by rw [LCK.out]; rfl) F9.out (by rw [LCK.out]; kernel_rfl) (ACK.out) ?_
          intro v6 q1 q2
          have F9 := Lib.hid q1
          have hv6 := hHeld.grown q2 hHeld.size (fun k hk => by cases hk; exact GF9.out)
          clear q1 q2 hHeld
          go_frame
          refine hK.out _ _ hv6 (fun hHeld => ?_)
          clear hK K hv6
          refine held_take (i := 13) (v := (.bool q)) rfl (by kernel_rfl) (by kernel_rfl) (by kernel_rfl) (fun _ _ _ h => h) (Or.inl ⟨by rfl, fun w' _ => by kernel_rfl⟩) hHeld ?_
          go_frame
          refine wpAnyH_done (by kernel_rfl) ?_ _
          obtain ⟨w9, hw9⟩ : ∃ w9, w9 = v6 := ⟨_, rfl⟩
          rw [← hw9] at  hHeld ⊢
          clear hw9
          have BX := Lib.hid (BB.out.trans (hHeld.mono BB.out.size))
          have KB := Lib.hid (KB.out.trans (hHeld.mono KB.out.size))
          have HW := Lib.hid (HW.out.below hHeld)
          have HEE := Lib.hid (HEE.out.below BX.out)
          clear hHeld F9 PX LX
          cases q with
          | true =>
            have c6 := HEE.out.missing
            go_wp2_with fail
            go_ret
            exact ⟨VF.new KB.out, .inl ⟨by rw [P2.out k (by first | rfl | trivial) hlt OQ.out]; decide, by rw [P2.out k (by first | rfl | trivial) hlt OQ.out]; rfl, HW.out⟩⟩
          | false =>
            go_wp2_with fail
            go_roundw
            case rel =>
              refine ⟨k + 1, by omega, by go_num, fun i hi => ?_, BX.out⟩
              rcases Nat.lt_or_eq_of_le (Nat.lt_succ_iff.1 hi) with h | rfl
              · exact AL.out i h
              · exact OQ.out
            case measure => simp [intOf]; omega
      · have hkn : k = nu := by omega
        subst hkn
        have R0 : Hid (R = 0) := P3.out (by first | rfl | trivial) AL.out
        obtain ⟨u, rfl⟩ : ∃ u, u = wr := ⟨_, rfl⟩
        have F3R := Lib.hid (row_below F3.out hbw)
        have V3 : Hid (VF mb sb g3) := HW.out.rowF F3R.out
        have V5 : Hid (VF mb sb g5) := HW.out.rowF F5R.out
        have KU : Hid (Kps (VF mb sb) w u) := VF.new KB.out
        have c1 := (CI1.out _ _ F3R.out).1
        clear hbw hlt P1 P2 P3 HEE HE LKG LGG PL
        go_wp2_with fail
        clear c1
        go_loopw [50] (fun vi wz => PtI1 b a mb sb m l made gone xs n u vi wz) (fun i _ => n - (intOf i).toNat)
        case atStart => exact ⟨0, Nat.zero_le _, rfl, HW.out, Kps.refl _ _⟩
        case round =>
          clear HV3 HW
          obtain ⟨j, hj, rfl, hvw, hkp⟩ := hrel
          have HW := Lib.hid hvw
          have KP := Lib.hid hkp
          clear hvw hkp
          have KW : Hid (Kps (VF mb sb) w wr) := KU.out.trans KP.out
          have F5Z := Lib.hid (row_kps F5R.out KP.out V5.out)
          by_cases hlt : j < n
          · obtain ⟨x, hx⟩ : ∃ x, xs[j]? = some x := ⟨_, List.getElem?_eq_getElem (by rw [← NX.out]; exact hlt)⟩
            obtain ⟨spi', capi', e0, _, hg0⟩ := TI.out wr KW.out
            rw [← NX.out] at e0 hg0
            obtain ⟨rfl, rfl⟩ : spi = spi' ∧ capi = capi' := by cases e0; exact ⟨rfl, rfl⟩
            obtain ⟨bi, oi, rfl, hg⟩ := hg0 (by omega)
            obtain ⟨ox, kv, hkv, hr⟩ := hg j x hx
            have RX := Lib.hid hr
            have XK := Lib.hid hx
            have PX : Hid (PtOk (ptIn x)) := ⟨ox.1, ox.2.1⟩
            have LX : Hid ((inL x kv).length = 35) := inL_length x kv ox.1
            have LXS : Hid ((inL x kv).toArray.size = 35) := by show _ = _; rw [List.size_toArray]; exact LX.out
            have XA : Hid ((inL x kv).toArray.all (·.oneCell') = true) := in_one x kv (by obtain ⟨_, sp, cap, rfl⟩ := hkv; rfl)
            have KX : Hid (∀ (W : World) (g : Nat), W.heap[g]? = some (.cells (inL x kv).toArray 43 (0, 0)) → W.rangeAt g 0 (ptC (ptIn x))) := fun W g q => in_pt (range_of_box q)
            have LP : Hid ((ptC (ptIn x)).length = 33) := ptC_length ⟨ox.1, ox.2.1⟩
            have p0 : 0 ≤ (j : Int) := by omega
            have q0 : (j : Int) < (n : Int) := by omega
            obtain ⟨cx, hcx⟩ : ∃ cx, cx = inL x kv := ⟨_, rfl⟩
            rw [← hcx] at RX LX LXS XA KX
            obtain ⟨cp, hcp⟩ : ∃ cp, cp = ptC (ptIn x) := ⟨_, rfl⟩
            rw [← hcp] at KX LP
            have CP := Lib.hid hcp
            clear hx hg hg0 hkv hr ox e0 hcx hcp
            go_upto_region 15 with ((with_reducible show wpList _ _ _ _ _ _); first | (refine wpList_load_mid rfl 43 (.tmp 52) rfl bi (oi + j * 35) rfl cx _ RX.out Tryd.underlying43 rfl (by rw [LX.out]; kernel_rfl) ?_; go_frame) | (refine wpList_store_row rfl 43 (.tmp 12) (.tmp 53) rfl wr.heap.size cx.toArray rfl rfl 43 _ (heap_alloc_new _ _) (by rw [LXS.out]; kernel_rfl) (by rw [LXS.out]; rfl) XA.out ?_; go_frame))
            obtain ⟨_, f2, f3, f4⟩ := fill_setup (Below.refl wr.heap.size wr) (List.replicate 32 (bV 0) ++ [nV 0, .slice none 0 0, nV 0]).toArray cx.toArray 43
            generalize hqw8 : World.setRow _ _ _ = w8
            have ew8 : World.setRow (wr.alloc (.cells (List.replicate 32 (bV 0) ++ [nV 0, .slice none 0 0, nV 0]).toArray 43)) wr.heap.size cx.toArray = w8 := hqw8
            rw [ew8] at f2 f3 f4
            obtain ⟨g12, hg12⟩ : ∃ g12, g12 = wr.heap.size := ⟨_, rfl⟩
            rw [← hg12] at f2 ⊢
            have F12 := Lib.hid f2
            have Ng12 : Hid (wr.heap.size ≤ g12) := by show _ ≤ _; rw [hg12]; exact Nat.le_refl _
            have KQ := Lib.hid (KP.out.trans (VF.new f4))
            have HW := Lib.hid (HW.out.below f4)
            clear f2 f3 f4 hqw8 ew8 hg12
            clear Ng12 p0 q0
            refine wp_region_held_drew (S := (fun w' => Kps (fun q => q ≠ sb) w8 w')) (by kernel_rfl) (Kps.new (Below.drew (Below.refl _ _))) (fun hHeld => ?_)
            have VD := Lib.hid (HW.out.below (Below.drew (Below.refl _ _)))
            have BD := Lib.hid (Below.drew (Below.refl w8.heap.size w8))
            generalize hwd : w8.drew = wd at VD BD hHeld ⊢
            clear hwd
            refine held_take (i := 0) (v := (.pointer (some ⟨b, 0, none⟩))) rfl (by kernel_rfl) (by kernel_rfl) (by kernel_rfl) (fun _ _ _ h => h) (Or.inl ⟨by rfl, fun w' _ => by kernel_rfl⟩) hHeld ?_
            go_frame
            refine held_take (i := 1) (v := (.pointer (some ⟨b, 0, none⟩))) rfl (by kernel_rfl) (by kernel_rfl) (by kernel_rfl) (fun _ _ _ h => h) (Or.inl ⟨by rfl, fun w' _ => by kernel_rfl⟩) hHeld ?_
            go_frame
            refine held_take (i := 2) (v := (.pointer (some ⟨b, 2, none⟩))) rfl (by kernel_rfl) (by kernel_rfl) (by kernel_rfl) (fun _ _ _ h => h) (Or.inl ⟨by rfl, fun w' _ => by kernel_rfl⟩) hHeld ?_
            go_frame
            refine held_take (i := 3) (v := (.map (some sb))) rfl (by kernel_rfl) (by kernel_rfl) (by kernel_rfl) (fun _ _ _ h => h) (yieldsIf_load_one (by rfl) 63 (.tmp 56) rfl b (2) rfl _ _ (fun w' hw' => by rw [cell_of_row _ _ _ _ _ _ (row_kps HW.out.box hw' (HW.out.gp.ne HW.out.box))]; rfl) Tryd.underlying63 rfl) hHeld ?_
            go_frame
            refine held_take (i := 4) (v := (.pointer (some ⟨g12, 0, none⟩))) rfl (by kernel_rfl) (by kernel_rfl) (by kernel_rfl) (fun _ _ _ h => h) (Or.inl ⟨by rfl, fun w' _ => by kernel_rfl⟩) hHeld ?_
            go_frame
            refine held_take (i := 5) (v := (.agg cp.toArray)) rfl (by kernel_rfl) (by kernel_rfl) (by kernel_rfl) (fun _ _ _ h => h) (Sha.yieldsIf_load_mid (by rfl) 28 (.tmp 58) rfl g12 (0) rfl cp _ (fun w' hw' => KX.out w' g12 (row_kps F12.out hw' (HW.out.gp.ne F12.out))) Tryd.underlying28 rfl (by rw [LP.out]; kernel_rfl)) hHeld ?_
            go_frame
            refine wpAnyH_ready (rs := [6]) (by kernel_rfl) (by simp) (held_cons rfl (fun K hK => ?_) AllReadyH.nil)
            rw [if_pos (by rfl)]
            refine wp_delete_gm mty_spent (.tmp 57) (.tmp 59) rfl (ptIn x) PX.out rfl (by show _ = Value.agg (ptC (ptIn x)).toArray; rw [← CP.out]; rfl) VD.out.gp ?_
            intro v1 q1 q2
            have VN := Lib.hid (VD.out.setGone q2 q1 (fun y hy => VD.out.ids y (delG_mem hy)))
            have KN := Lib.hid ((VF.new (mb := mb) (sb := sb) BD.out).trans (VF.gone q2))
            have hv1 : Kps (fun q => q ≠ sb) w8 v1 := hHeld.trans (Kps.grown q2 fun k _ hk e => hk (Option.some.inj e))
            clear q1 q2 hHeld VD BD
            go_frame
            refine hK.out _ _ hv1 (fun hHeld => ?_)
            clear hK K hv1
            refine wpAnyH_done (by kernel_rfl) ?_ _
            clear hHeld
            go_wp2_with fail
            go_roundw
            case rel =>
              exact ⟨j + 1, by omega, by go_num, by rw [goneT_succ gone XK.out]; exact VN.out, KQ.out.trans KN.out⟩
            case measure => simp [intOf]; omega
          · have hjn : j = n := by omega
            subst hjn
            have HX : Hid (ViewAt wr b a m mb sb l made (goneT gone xs)) := by
              have h := HW.out
              rw [NX.out, List.take_length] at h
              exact h
            clear hlt TI HW
            go_upto_region 17 with fail
            refine wp_region_held_drew (S := (fun w' => Kps (fun q => q ≠ mb) wr w')) (by kernel_rfl) (Kps.new (Below.drew (Below.refl _ _))) (fun hHeld => ?_)
            have VD := Lib.hid (HX.out.below (Below.drew (Below.refl _ _)))
            have BD := Lib.hid (Below.drew (Below.refl wr.heap.size wr))
            generalize hwd : wr.drew = wd at VD BD hHeld ⊢
            clear hwd
            refine held_take (i := 0) (v := (.pointer (some ⟨b, 0, none⟩))) rfl (by kernel_rfl) (by kernel_rfl) (by kernel_rfl) (fun _ _ _ h => h) (Or.inl ⟨by rfl, fun w' _ => by kernel_rfl⟩) hHeld ?_
            go_frame
            refine held_take (i := 1) (v := (.pointer (some ⟨b, 0, none⟩))) rfl (by kernel_rfl) (by kernel_rfl) (by kernel_rfl) (fun _ _ _ h => h) (Or.inl ⟨by rfl, fun w' _ => by kernel_rfl⟩) hHeld ?_
            go_frame
            refine held_take (i := 2) (v := (.pointer (some ⟨b, 1, none⟩))) rfl (by kernel_rfl) (by kernel_rfl) (by kernel_rfl) (fun _ _ _ h => h) (Or.inl ⟨by rfl, fun w' _ => by kernel_rfl⟩) hHeld ?_
            go_frame
            refine held_take (i := 3) (v := (.map (some mb))) rfl (by kernel_rfl) (by kernel_rfl) (by kernel_rfl) (fun _ _ _ h => h) (yieldsIf_load_one (by rfl) 62 (.tmp 63) rfl b (1) rfl _ _ (fun w' hw' => by rw [cell_of_row _ _ _ _ _ _ (row_kps HX.out.box hw' (HX.out.mp.ne HX.out.box))]; rfl) Tryd.underlying62 rfl) hHeld ?_
            go_frame
            refine held_take (i := 4) (v := (.agg ci.toArray)) rfl (by kernel_rfl) (by kernel_rfl) (by kernel_rfl) (fun _ _ _ h => h) (yieldsIf_load_row (by rfl) 25 (.tmp 5) rfl g5 rfl 25 ci.toArray (0, 0) _ (fun w' hw' => row_kps F5Z.out hw' (HX.out.mp.ne F5Z.out)) Tryd.underlying25 rfl (by rw [SCI.out]; kernel_rfl)) hHeld ?_
            go_frame
            refine wpAnyH_ready (rs := [5]) (by kernel_rfl) (by simp) (held_cons rfl (fun K hK => ?_) AllReadyH.nil)
            rw [if_pos (by rfl)]
            refine wp_delete_gm mty_made (.tmp 64) (.tmp 65) rfl id LID.out rfl (by show _ = Value.agg (id.map bV).toArray; rw [← CIE.out]; rfl) VD.out.mp ?_
            intro v1 q1 q2
            have VN := Lib.hid (VD.out.setMade q2 q1 (fun y hy => VD.out.outs y (delG_mem hy)))
            have KN := Lib.hid ((VF.new (mb := mb) (sb := sb) BD.out).trans (VF.made q2))
            have hv1 : Kps (fun q => q ≠ mb) wr v1 := hHeld.trans (Kps.grown q2 fun k _ hk e => hk (Option.some.inj e))
            clear q1 q2 hHeld VD BD
            go_frame
            refine hK.out _ _ hv1 (fun hHeld => ?_)
            clear hK K hv1
            refine wpAnyH_done (by kernel_rfl) ?_ _
            clear hHeld
            go_wp2_with fail
            go_ret
            exact ⟨KW.out.trans KN.out, .inr ⟨R0.out, rfl, VN.out⟩⟩
end Go.Proofs.YtgcoegbamoehfaaDoor.Sha

/-
  SHA-256 over plain numbers, made so that the kernel reckons it in a moment (each number is reckoned before it goes on); it is what 'sha' is. No program is imported. No conditions.
-/
namespace Go.Proofs.YtgcoegbamoehfaaDoor.Sha
open Go
noncomputable section
/-- k n, where n is reckoned first. -/
def frc {α : Type} (n : Nat) (k : Nat → α) : α := Nat.rec (k 0) (fun m _ => k (m + 1)) n
theorem frc_eq {α : Type} (n : Nat) (k : Nat → α) : frc n k = k n := by cases n <;> rfl
def frcL {α : Type} : List Nat → (List Nat → α) → α
  | [], k => k []
  | x :: l, k => frc x fun y => frcL l fun ys => k (y :: ys)
theorem frcL_eq {α : Type} : ∀ (l : List Nat) (k : List Nat → α), frcL l k = k l
  | [], _ => rfl
  | x :: l, k => by show frc x _ = _; rw [frc_eq, frcL_eq l]
def rotN (x n : Nat) : Nat := Nat.lor (Nat.shiftRight x n) (Nat.mod (Nat.shiftLeft x (Nat.sub 32 n)) 4294967296)
def ss0 (x : Nat) : Nat := Nat.xor (Nat.xor (rotN x 7) (rotN x 18)) (Nat.shiftRight x 3)
def ss1 (x : Nat) : Nat := Nat.xor (Nat.xor (rotN x 17) (rotN x 19)) (Nat.shiftRight x 10)
def bb0 (x : Nat) : Nat := Nat.xor (Nat.xor (rotN x 2) (rotN x 13)) (rotN x 22)
def bb1 (x : Nat) : Nat := Nat.xor (Nat.xor (rotN x 6) (rotN x 11)) (rotN x 25)
def rdN (b : Nat → Nat) (t : Nat) : Nat := Nat.lor (Nat.lor (Nat.lor (Nat.shiftLeft (b (4 * t)) 24) (Nat.shiftLeft (b (4 * t + 1)) 16)) (Nat.shiftLeft (b (4 * t + 2)) 8)) (b (4 * t + 3))
def firstA (b : Nat → Nat) : Nat → Nat → List Nat → List Nat
  | 0, _, r => r
  | n + 1, t, r => frc (rdN b t) fun x => firstA b n (t + 1) (x :: r)
def schedN : Nat → List Nat → List Nat
  | 0, r => r
  | n + 1, r => frc (Nat.mod (Nat.add (Nat.add (Nat.add (ss1 (r.getD 1 0)) (r.getD 6 0)) (ss0 (r.getD 14 0))) (r.getD 15 0)) 4294967296) fun x => schedN n (x :: r)
def revA : List Nat → List Nat → List Nat
  | [], r => r
  | x :: l, r => revA l (x :: r)
def kN : List Nat := [
  1116352408, 1899447441, 3049323471, 3921009573, 961987163, 1508970993, 2453635748, 2870763221,
  3624381080, 310598401, 607225278, 1426881987, 1925078388, 2162078206, 2614888103, 3248222580,
  3835390401, 4022224774, 264347078, 604807628, 770255983, 1249150122, 1555081692, 1996064986,
  2554220882, 2821834349, 2952996808, 3210313671, 3336571891, 3584528711, 113926993, 338241895,
  666307205, 773529912, 1294757372, 1396182291, 1695183700, 1986661051, 2177026350, 2456956037,
  2730485921, 2820302411, 3259730800, 3345764771, 3516065817, 3600352804, 4094571909, 275423344,
  430227734, 506948616, 659060556, 883997877, 958139571, 1322822218, 1537002063, 1747873779,
  1955562222, 2024104815, 2227730452, 2361852424, 2428436474, 2756734187, 3204031479, 3329325298]
def rndN : List Nat → List Nat → Nat → Nat → Nat → Nat → Nat → Nat → Nat → Nat → List Nat
  | k :: ks, x :: ws, a, b, c, d, e, f, g, h =>
    frc (Nat.mod (Nat.add (Nat.add (Nat.add (Nat.add h (bb1 e)) (Nat.xor (Nat.land e f) (Nat.land g (Nat.sub 4294967295 e)))) k) x) 4294967296) fun t1 =>
    frc (Nat.mod (Nat.add t1 (Nat.add (bb0 a) (Nat.xor (Nat.xor (Nat.land a b) (Nat.land a c)) (Nat.land b c)))) 4294967296) fun a' =>
    frc (Nat.mod (Nat.add d t1) 4294967296) fun e' => rndN ks ws a' a b c e' e f g
  | _, _, a, b, c, d, e, f, g, h => [a, b, c, d, e, f, g, h]
def addN : List Nat → List Nat → List Nat
  | x :: l, y :: m => Nat.mod (Nat.add x y) 4294967296 :: addN l m
  | _, _ => []
def rnd8 (ws : List Nat) (s : List Nat) : List Nat :=
  match s with
  | [a, b, c, d, e, f, g, h] => rndN kN ws a b c d e f g h
  | _ => []
def compN {α : Type} (s : List Nat) (b : Nat → Nat) (k : List Nat → α) : α := frcL (addN s (rnd8 (revA (schedN 48 (firstA b 16 0 [])) []) s)) k
def blksN {α : Type} (p : List Nat) (k : List Nat → α) : Nat → Nat → List Nat → α
  | 0, _, s => k s
  | n + 1, i, s => compN s (fun j => p.getD (64 * i + j) 0) fun s' => blksN p k n (i + 1) s'
def startN : List Nat := [0x6a09e667, 0xbb67ae85, 0x3c6ef372, 0xa54ff53a, 0x510e527f, 0x9b05688c, 0x1f83d9ab, 0x5be0cd19]
def bytesN : List Nat → List Nat
  | [] => []
  | x :: l => Nat.mod (Nat.shiftRight x 24) 256 :: Nat.mod (Nat.shiftRight x 16) 256 :: Nat.mod (Nat.shiftRight x 8) 256 :: Nat.mod x 256 :: bytesN l
def padN (l : List Nat) : List Nat :=
  let n := l.length
  let p := if n % 64 < 56 then 56 - n % 64 else 120 - n % 64
  l ++ (128 :: List.replicate (p - 1) 0) ++ [8 * n / 2 ^ 56 % 256, 8 * n / 2 ^ 48 % 256, 8 * n / 2 ^ 40 % 256, 8 * n / 2 ^ 32 % 256, 8 * n / 2 ^ 24 % 256, 8 * n / 2 ^ 16 % 256, 8 * n / 2 ^ 8 % 256, 8 * n % 256]
def shaN {α : Type} (l : List Nat) (k : List Nat → α) : α := frcL (padN l) fun p => blksN p (fun s => frcL (bytesN s) k) (p.length / 64) 0 startN
def dblN {α : Type} (l : List Nat) (k : List Nat → α) : α := shaN l fun d => shaN d k
theorem rotr_nat (x : UInt32) (n : Nat) (h1 : 1 ≤ n) (h2 : n ≤ 31) : (rotr x n).toNat = rotN x.toNat n := by
  unfold rotr rotN
  rw [UInt32.toNat_or, UInt32.toNat_shiftRight, UInt32.toNat_shiftLeft]
  have e1 : (UInt32.ofNat n).toNat % 32 = n := by rw [UInt32.toNat_ofNat']; omega
  have e2 : (UInt32.ofNat (32 - n)).toNat % 32 = 32 - n := by rw [UInt32.toNat_ofNat']; omega
  rw [e1, e2]
  rfl
theorem shr_nat (x : UInt32) (n : Nat) (h2 : n ≤ 31) : (x >>> UInt32.ofNat n).toNat = Nat.shiftRight x.toNat n := by
  rw [UInt32.toNat_shiftRight]
  have e1 : (UInt32.ofNat n).toNat % 32 = n := by rw [UInt32.toNat_ofNat']; omega
  rw [e1]
  rfl
theorem sS0_nat (x : UInt32) : (sS0 x).toNat = ss0 x.toNat := by
  unfold sS0 ss0
  rw [UInt32.toNat_xor, UInt32.toNat_xor, rotr_nat _ _ (by omega) (by omega), rotr_nat _ _ (by omega) (by omega), shr_nat _ _ (by omega)]
  rfl
theorem sS1_nat (x : UInt32) : (sS1 x).toNat = ss1 x.toNat := by
  unfold sS1 ss1
  rw [UInt32.toNat_xor, UInt32.toNat_xor, rotr_nat _ _ (by omega) (by omega), rotr_nat _ _ (by omega) (by omega), shr_nat _ _ (by omega)]
  rfl
theorem bS0_nat (x : UInt32) : (bS0 x).toNat = bb0 x.toNat := by
  unfold bS0 bb0
  rw [UInt32.toNat_xor, UInt32.toNat_xor, rotr_nat _ _ (by omega) (by omega), rotr_nat _ _ (by omega) (by omega), rotr_nat _ _ (by omega) (by omega)]
  rfl
theorem bS1_nat (x : UInt32) : (bS1 x).toNat = bb1 x.toNat := by
  unfold bS1 bb1
  rw [UInt32.toNat_xor, UInt32.toNat_xor, rotr_nat _ _ (by omega) (by omega), rotr_nat _ _ (by omega) (by omega), rotr_nat _ _ (by omega) (by omega)]
  rfl
theorem shl_nat (x : UInt8) (n : Nat) (h : n ≤ 24) : (x.toUInt32 <<< UInt32.ofNat n).toNat = Nat.shiftLeft x.toNat n := by
  rw [UInt32.toNat_shiftLeft]
  have e1 : (UInt32.ofNat n).toNat % 32 = n := by rw [UInt32.toNat_ofNat']; omega
  rw [e1]
  have h1 : x.toUInt32.toNat = x.toNat := by simp
  rw [h1]
  show x.toNat <<< n % 2 ^ 32 = x.toNat <<< n
  rw [Nat.shiftLeft_eq]
  refine Nat.mod_eq_of_lt ?_
  have h2 : x.toNat < 256 := x.toNat_lt
  have h3 : (2 : Nat) ^ n ≤ 2 ^ 24 := Nat.pow_le_pow_right (by omega) h
  calc x.toNat * 2 ^ n ≤ 255 * 2 ^ 24 := Nat.mul_le_mul (by omega) h3
    _ < 2 ^ 32 := by decide
theorem rd_nat (b : Nat → UInt8) (t : Nat) : (rd b t).toNat = rdN (fun j => (b j).toNat) t := by
  unfold rd rdN
  rw [UInt32.toNat_or, UInt32.toNat_or, UInt32.toNat_or, shl_nat _ _ (by omega), shl_nat _ _ (by omega), shl_nat _ _ (by omega)]
  have h1 : (b (4 * t + 3)).toUInt32.toNat = (b (4 * t + 3)).toNat := by simp
  rw [h1]
  rfl
/-- A row of words, the last one first. -/
def fzRow (b : Nat → UInt8) (t : Nat) : List Nat := ((row b t).map UInt32.toNat).reverse
theorem fzRow_succ (b : Nat → UInt8) (t : Nat) : fzRow b (t + 1) = (nextW b t (row b t)).toNat :: fzRow b t := by
  unfold fzRow
  show ((row b t ++ [nextW b t (row b t)]).map _).reverse = _
  rw [List.map_append, List.reverse_append]
  rfl
theorem fzRow_get (b : Nat → UInt8) (t i : Nat) (h : i < t) : (fzRow b t).getD i 0 = ((row b t).getD (t - 1 - i) 0).toNat := by
  have hl := row_length b t
  unfold fzRow
  have h1 : t - 1 - i < (row b t).length := by omega
  rw [List.getD_eq_getElem?_getD, List.getD_eq_getElem?_getD, List.getElem?_reverse (by simp; omega), List.length_map, hl, List.getElem?_map, List.getElem?_eq_getElem h1]
  rfl
theorem first_row (b : Nat → UInt8) : ∀ n t, t + n ≤ 16 → firstA (fun j => (b j).toNat) n t (fzRow b t) = fzRow b (t + n)
  | 0, _, _ => rfl
  | n + 1, t, h => by
    show frc _ _ = _
    rw [frc_eq, ← rd_nat, ← nextW_low b t (row b t) (by omega), ← fzRow_succ, first_row b n (t + 1) (by omega)]
    congr 1
    omega
theorem add_nat (x y : UInt32) : (x + y).toNat = (x.toNat + y.toNat) % 4294967296 := UInt32.toNat_add x y
theorem sched_row (b : Nat → UInt8) : ∀ n t, 16 ≤ t → schedN n (fzRow b t) = fzRow b (t + n)
  | 0, _, _ => rfl
  | n + 1, t, h => by
    show frc _ _ = _
    have e : Nat.mod (Nat.add (Nat.add (Nat.add (ss1 ((fzRow b t).getD 1 0)) ((fzRow b t).getD 6 0)) (ss0 ((fzRow b t).getD 14 0))) ((fzRow b t).getD 15 0)) 4294967296 = (nextW b t (row b t)).toNat := by
      rw [fzRow_get b t 1 (by omega), fzRow_get b t 6 (by omega), fzRow_get b t 14 (by omega), fzRow_get b t 15 (by omega), ← sS1_nat, ← sS0_nat, nextW_high b t _ h, add_nat, add_nat, add_nat]
      rw [show t - 1 - 1 = t - 2 from by omega, show t - 1 - 6 = t - 7 from by omega, show t - 1 - 14 = t - 15 from by omega, show t - 1 - 15 = t - 16 from by omega]
      simp only [Nat.mod_add_mod]
      rfl
    rw [frc_eq, e, ← fzRow_succ, sched_row b n (t + 1) (by omega)]
    congr 1
    omega
theorem revA_eq : ∀ (l r : List Nat), revA l r = l.reverse ++ r
  | [], _ => rfl
  | x :: l, r => by show revA l (x :: r) = _; rw [revA_eq l]; simp
theorem rows_all (b : Nat → UInt8) : revA (schedN 48 (firstA (fun j => (b j).toNat) 16 0 [])) [] = (row b 64).map UInt32.toNat := by
  have h1 := first_row b 16 0 (by omega)
  have e0 : fzRow b 0 = [] := rfl
  rw [e0] at h1
  rw [h1, sched_row b 48 16 (by omega), revA_eq]
  show ((row b 64).map UInt32.toNat).reverse.reverse ++ [] = _
  simp
theorem kN_eq : kN = kList.map UInt32.toNat := by decide +kernel
def stN (s : St) : List Nat := [s.a.toNat, s.b.toNat, s.c.toNat, s.d.toNat, s.e.toNat, s.f.toNat, s.g.toNat, s.h.toNat]
theorem not_nat (x : UInt32) : (~~~x).toNat = Nat.sub 4294967295 x.toNat := by
  rw [UInt32.toNat_not]
  rfl
theorem T1_nat (s : St) (k w : UInt32) : (T1 s k w).toNat = Nat.mod (Nat.add (Nat.add (Nat.add (Nat.add s.h.toNat (bb1 s.e.toNat)) (Nat.xor (Nat.land s.e.toNat s.f.toNat) (Nat.land s.g.toNat (Nat.sub 4294967295 s.e.toNat)))) k.toNat) w.toNat) 4294967296 := by
  unfold T1
  rw [add_nat, add_nat, add_nat, add_nat, bS1_nat, UInt32.toNat_xor, UInt32.toNat_and, UInt32.toNat_and, not_nat]
  simp only [Nat.mod_add_mod]
  rfl
theorem T12_nat (s : St) (t : UInt32) : (t + T2 s).toNat = Nat.mod (Nat.add t.toNat (Nat.add (bb0 s.a.toNat) (Nat.xor (Nat.xor (Nat.land s.a.toNat s.b.toNat) (Nat.land s.a.toNat s.c.toNat)) (Nat.land s.b.toNat s.c.toNat)))) 4294967296 := by
  unfold T2
  rw [add_nat, add_nat, bS0_nat, UInt32.toNat_xor, UInt32.toNat_xor, UInt32.toNat_and, UInt32.toNat_and, UInt32.toNat_and]
  simp only [Nat.add_mod_mod]
  rfl
theorem rounds_nat (l : List UInt32) (hl : l.length = 64) (s0 : St) : ∀ n t, t + n = 64 → ∀ s, s = rounds l s0 t →
    rndN ((kList.drop t).map UInt32.toNat) ((l.drop t).map UInt32.toNat) s.a.toNat s.b.toNat s.c.toNat s.d.toNat s.e.toNat s.f.toNat s.g.toNat s.h.toNat = stN (rounds l s0 64)
  | 0, t, h, s, hs => by
    obtain rfl : t = 64 := by omega
    rw [List.drop_of_length_le (by omega : l.length ≤ 64), ← hs, List.drop_of_length_le (by decide : kList.length ≤ 64)]
    rfl
  | n + 1, t, h, s, hs => by
    have hk : t < kList.length := by show t < 64; omega
    have ht : t < l.length := by omega
    have ek : kList[t] = kW t := by unfold kW; rw [List.getD_eq_getElem?_getD, List.getElem?_eq_getElem hk]; rfl
    have el : l[t] = l.getD t 0 := by rw [List.getD_eq_getElem?_getD, List.getElem?_eq_getElem ht]; rfl
    rw [List.drop_eq_getElem_cons hk, List.drop_eq_getElem_cons ht, List.map_cons, List.map_cons, ek, el]
    show frc _ (fun t1 => frc _ (fun a' => frc _ (fun e' => rndN _ _ a' _ _ _ e' _ _ _))) = _
    rw [frc_eq, frc_eq, frc_eq, ← T1_nat, ← T12_nat, show Nat.mod (Nat.add s.d.toNat (T1 s (kW t) (l.getD t 0)).toNat) 4294967296 = (s.d + T1 s (kW t) (l.getD t 0)).toNat from (add_nat _ _).symm]
    exact rounds_nat l hl s0 n (t + 1) (by omega) (s.round (kW t) (l.getD t 0)) (by rw [hs]; rfl)
theorem rnd8_st (ws : List Nat) (s : St) : rnd8 ws (stN s) = rndN kN ws s.a.toNat s.b.toNat s.c.toNat s.d.toNat s.e.toNat s.f.toNat s.g.toNat s.h.toNat := rfl
theorem add_st (s r : St) : addN (stN s) (stN r) = stN (s.plus r) := by
  show addN [_, _, _, _, _, _, _, _] [_, _, _, _, _, _, _, _] = [_, _, _, _, _, _, _, _]
  simp only [addN, St.plus, add_nat]
  rfl
theorem plus_comm (s r : St) : s.plus r = r.plus s := by
  unfold St.plus
  simp only [UInt32.add_comm]
theorem rnd_all (l : List UInt32) (hl : l.length = 64) (s : St) : rnd8 (l.map UInt32.toNat) (stN s) = stN (rounds l s 64) := by
  have h := rounds_nat l hl s 64 0 (by omega) s rfl
  rw [List.drop_zero, List.drop_zero, ← kN_eq, ← rnd8_st] at h
  exact h
theorem comp_eq (s : St) (b : Nat → UInt8) : compress s b = s.plus (rounds (row b 64) s 64) := rfl
theorem comp_nat {α : Type} (s : St) (b : Nat → UInt8) (k : List Nat → α) : compN (stN s) (fun j => (b j).toNat) k = k (stN (compress s b)) := by
  unfold compN
  rw [frcL_eq, rows_all, rnd_all _ (row_length b 64) s, add_st, comp_eq]
theorem getD_nat (l : List UInt8) (i : Nat) : (l.map UInt8.toNat).getD i 0 = (l.getD i 0).toNat := by
  rw [List.getD_eq_getElem?_getD, List.getD_eq_getElem?_getD, List.getElem?_map]
  cases l[i]? <;> rfl
theorem blks_nat {α : Type} (p : List UInt8) (k : List Nat → α) : ∀ n i, blksN (p.map UInt8.toNat) k n i (stN (blocks p i)) = k (stN (blocks p (i + n)))
  | 0, _ => rfl
  | n + 1, i => by
    show compN _ _ _ = _
    have e : (fun j => (p.map UInt8.toNat).getD (64 * i + j) 0) = fun j => ((blk p i) j).toNat := by
      funext j
      exact getD_nat p _
    rw [e, comp_nat]
    show blksN _ k n (i + 1) (stN (blocks p (i + 1))) = _
    rw [blks_nat p k n (i + 1)]
    congr 3
    omega
theorem wb_nat (x : UInt32) : (wordBytes x).map UInt8.toNat = [Nat.mod (Nat.shiftRight x.toNat 24) 256, Nat.mod (Nat.shiftRight x.toNat 16) 256, Nat.mod (Nat.shiftRight x.toNat 8) 256, Nat.mod x.toNat 256] := by
  unfold wordBytes
  simp only [List.map_cons, List.map_nil, UInt32.toNat_toUInt8, shr_nat _ _ (by omega : 24 ≤ 31), shr_nat _ _ (by omega : 16 ≤ 31), shr_nat _ _ (by omega : 8 ≤ 31)]
  rfl
theorem bytes_nat (s : St) : bytesN (stN s) = s.bytes.map UInt8.toNat := by
  unfold St.bytes St.list
  simp only [List.flatMap_cons, List.flatMap_nil, List.map_append, wb_nat, List.map_nil]
  rfl
theorem len8_nat (n : Nat) (k : Nat) : (lenByte n k).toNat = 8 * n / 2 ^ (56 - 8 * k) % 256 := by
  unfold lenByte
  exact UInt8.toNat_ofNat' 
theorem pad_nat (l : List UInt8) : padN (l.map UInt8.toNat) = (padded l).map UInt8.toNat := by
  unfold padN padded pad len8
  simp only [List.map_append, List.length_map, List.map_cons, List.map_replicate, List.map_nil, len8_nat, Nat.mul_zero, Nat.sub_zero, Nat.mul_one, Nat.reduceMul, Nat.reduceSub, Nat.pow_zero, Nat.div_one]
  rfl
theorem sha_nat {α : Type} (l : List UInt8) (k : List Nat → α) : shaN (l.map UInt8.toNat) k = k ((sha l).map UInt8.toNat) := by
  unfold shaN
  rw [frcL_eq, pad_nat, List.length_map]
  have h := blks_nat (padded l) (fun s => frcL (bytesN s) k) ((padded l).length / 64) 0
  have e : stN (blocks (padded l) 0) = startN := rfl
  rw [e] at h
  rw [h, frcL_eq, bytes_nat, Nat.zero_add]
  rfl
theorem dbl_nat {α : Type} (l : List UInt8) (k : List Nat → α) : dblN (l.map UInt8.toNat) k = k ((sha (sha l)).map UInt8.toNat) := by
  unfold dblN
  rw [sha_nat, sha_nat]
end
end Go.Proofs.YtgcoegbamoehfaaDoor.Sha

/-
  Plain mathematics of a chain of twenty transactions, each of which spends the one ahead: their ids, reckoned by the kernel, are all unlike; what a view over one coin answers while they are put and taken. No conditions.
-/
namespace Go.Proofs.YtgcoegbamoehfaaDoor.Sha
open Go Go.RowKit
def vcP0 : TPt := ⟨9 :: List.replicate 31 0, 4⟩
def vcT (i : Nat) (p : TPt) : TTx := ⟨i, [⟨p.h, p.n, [], 0⟩], [⟨i, zH⟩], 0⟩
/-- Where the i-th one's coin is. -/
def vcF : Nat → TPt
  | 0 => vcP0
  | i + 1 => ⟨idV (vcT i (vcF i)), 0⟩
def vcX (i : Nat) : TTx := vcT i (vcF i)
theorem vcF_succ (i : Nat) : vcF (i + 1) = ⟨idV (vcX i), 0⟩ := rfl
theorem vcF_ok : ∀ i, PtOk (vcF i)
  | 0 => ⟨by decide, by decide⟩
  | _ + 1 => ⟨sha_length _, Nat.zero_le _⟩
/-! The ids as plain numbers. -/
def uN (n : Nat) : Nat → List Nat
  | 0 => []
  | k + 1 => uN n k ++ [n / 256 ^ k % 256]
theorem leB_nat (n : Nat) : ∀ k, (leB n k).map UInt8.toNat = uN n k
  | 0 => rfl
  | k + 1 => by
    show (leB n k ++ [_]).map _ = uN n k ++ [_]
    rw [List.map_append, leB_nat n k, List.map_singleton, UInt8.toNat_ofNat']
def txN (i : Nat) (h : List Nat) (n : Nat) : List Nat := uN i 4 ++ [1] ++ (h ++ uN n 4 ++ [0] ++ uN 0 4) ++ [1] ++ (uN i 8 ++ List.replicate 32 0) ++ uN 0 4
theorem txN_eq (i : Nat) (p : TPt) : (txB (vcT i p)).map UInt8.toNat = txN i (p.h.map UInt8.toNat) p.n := by
  unfold txB vcT txN insB outsB inB outB
  have h1 : putL 1 = [1] := rfl
  have h0 : putL 0 = [0] := rfl
  simp only [List.length_singleton, List.length_nil, h1, h0, List.flatMap_cons, List.flatMap_nil, List.append_nil, List.map_append, leB_nat, List.map_singleton, zH, List.map_replicate]
  rfl
noncomputable def chainN : Nat → Nat → List Nat → Nat → List (List Nat)
  | 0, _, _, _ => []
  | n + 1, i, h, q => dblN (txN i h q) fun d => d :: chainN n (i + 1) d 0
def vcIds : Nat → Nat → TPt → List (List UInt8)
  | 0, _, _ => []
  | n + 1, i, p => idV (vcT i p) :: vcIds n (i + 1) ⟨idV (vcT i p), 0⟩
theorem chain_eq : ∀ n i (p : TPt), chainN n i (p.h.map UInt8.toNat) p.n = (vcIds n i p).map (fun l => l.map UInt8.toNat)
  | 0, _, _ => rfl
  | n + 1, i, p => by
    show dblN _ _ = _
    rw [← txN_eq, dbl_nat]
    show _ :: chainN n (i + 1) ((idV (vcT i p)).map UInt8.toNat) 0 = _
    rw [show chainN n (i + 1) ((idV (vcT i p)).map UInt8.toNat) 0 = chainN n (i + 1) ((⟨idV (vcT i p), 0⟩ : TPt).h.map UInt8.toNat) (⟨idV (vcT i p), 0⟩ : TPt).n from rfl, chain_eq n (i + 1)]
    rfl
theorem vcIds_get : ∀ n i j, j < n → (vcIds n i (vcF i))[j]? = some (idV (vcX (i + j)))
  | 0, _, _, h => absurd h (Nat.not_lt_zero _)
  | n + 1, i, 0, _ => rfl
  | n + 1, i, j + 1, h => by
    show (vcIds n (i + 1) (vcF (i + 1)))[j]? = _
    rw [vcIds_get n (i + 1) j (by omega), show i + 1 + j = i + (j + 1) from by omega]
def unlike : List (List Nat) → Bool
  | [] => true
  | x :: l => l.all (fun y => y != x) && unlike l
theorem unlike_pair : ∀ l, unlike l = true → l.Pairwise (fun x y => x ≠ y)
  | [], _ => List.Pairwise.nil
  | x :: l, h => by
    unfold unlike at h
    rw [Bool.and_eq_true, List.all_eq_true] at h
    exact List.Pairwise.cons (fun y hy e => by have := h.1 y hy; rw [e] at this; simp at this) (unlike_pair l h.2)
set_option maxRecDepth 100000 in
theorem chain_unlike : unlike (chainN 20 0 (9 :: List.replicate 31 0) 4) = true := by decide +kernel
theorem vc_ids {i j : Nat} (hi : i < 20) (hj : j < 20) (h : idV (vcX i) = idV (vcX j)) : i = j := by
  have h1 := unlike_pair _ chain_unlike
  have h2 := chain_eq 20 0 (vcF 0)
  have e : chainN 20 0 ((vcF 0).h.map UInt8.toNat) (vcF 0).n = chainN 20 0 (9 :: List.replicate 31 0) 4 := by
    congr 1
  rw [e] at h2
  rw [h2, List.pairwise_map] at h1
  have g : ∀ k, k < 20 → (vcIds 20 0 (vcF 0))[k]? = some (idV (vcX k)) := fun k hk => by
    have := vcIds_get 20 0 k hk
    rwa [Nat.zero_add] at this
  have key : ∀ a b, a < b → b < 20 → idV (vcX a) ≠ idV (vcX b) := fun a b hab hb he => by
    have ha := g a (by omega)
    have hb' := g b hb
    obtain ⟨ha1, ha2⟩ := List.getElem?_eq_some_iff.1 ha
    obtain ⟨hb1, hb2⟩ := List.getElem?_eq_some_iff.1 hb'
    exact (List.pairwise_iff_getElem.1 h1 a b ha1 hb1 hab) (by rw [ha2, hb2, he])
  rcases Nat.lt_trichotomy i j with hlt | rfl | hlt
  · exact absurd h (key i j hlt hj)
  · rfl
  · exact absurd h.symm (key j i hlt hi)
theorem vc_from {i j : Nat} (hi : i ≤ 20) (hj : j ≤ 20) (h : vcF i = vcF j) : i = j := by
  cases i with
  | zero =>
    cases j with
    | zero => rfl
    | succ j => have := congrArg TPt.n h; simp [vcF, vcP0] at this
  | succ i =>
    cases j with
    | zero => have := congrArg TPt.n h; simp [vcF, vcP0] at this
    | succ j =>
      have := congrArg TPt.h h
      rw [vcF_succ, vcF_succ] at this
      rw [vc_ids (by omega) (by omega) this]
theorem vcT_small (i : Nat) (p : TPt) (hp : PtOk p) (hi : i ≤ 1000) : TxSmall (vcT i p) := by
  have hin : InsOk [(⟨p.h, p.n, [], 0⟩ : TIn)] := fun x hx => by
    rw [List.mem_singleton.1 hx]
    exact ⟨hp.1, hp.2, Nat.zero_le _⟩
  have hout : OutsOk [(⟨i, zH⟩ : TOut)] := fun y hy => by
    rw [List.mem_singleton.1 hy]
    exact ⟨rfl, by show i ≤ _; omega⟩
  have hkey : ∀ n, KeysLe [(⟨p.h, p.n, [], 0⟩ : TIn)] n := fun n x hx => by
    rw [List.mem_singleton.1 hx]
    exact Nat.zero_le _
  refine ⟨⟨⟨by show i ≤ _; omega, Nat.zero_le _⟩, hin, hout, hkey _, ?_, ?_⟩, ?_, ?_, hkey _⟩ <;> simp [vcT]
/-- A view over one coin at vcP0 over which the first k of the chain were put. -/
structure VcS (k : Nat) (made : Made) (gone : Gone) : Prop where
  len : made.length = k
  m1 : ∀ h, (getG made h).isSome = true ↔ ∃ i, i < k ∧ h = idV (vcX i)
  m2 : ∀ i, i < k → outsV made (idV (vcX i)) = [mnOf 7 ⟨i, zH⟩]
  g1 : ∀ p, (getG gone p).isSome = true ↔ ∃ i, i < k ∧ p = vcF i
theorem VcS.nil : VcS 0 [] [] := ⟨rfl, fun h => ⟨fun h => by simp [getG] at h, fun ⟨i, hi, _⟩ => absurd hi (Nat.not_lt_zero _)⟩, fun i hi => absurd hi (Nat.not_lt_zero _), fun h => ⟨fun h => by simp [getG] at h, fun ⟨i, hi, _⟩ => absurd hi (Nat.not_lt_zero _)⟩⟩
theorem isSome_none {α : Type} {o : Option α} (h : ¬ o.isSome = true) : o = none := by
  cases o with
  | none => rfl
  | some x => exact absurd rfl h
section
variable {k n : Nat} {made : Made} {gone : Gone} {c : TMn}
theorem VcS.fresh (h : VcS k made gone) (hk : k < 20) : getG made (idV (vcX k)) = none := isSome_none fun e => by
  obtain ⟨i, hi, he⟩ := (h.m1 _).1 e
  have := vc_ids hk (by omega) he
  omega
theorem VcS.put (h : VcS k made gone) (hk : k < 20) (v : Value) : VcS (k + 1) (made ++ [(idV (vcX k), (v, (vcX k).outs.map (mnOf 7)))]) (goneV gone (idV (vcX k)) (vcX k).ins) := by
  have hf := h.fresh hk
  refine ⟨by rw [List.length_append, h.len]; rfl, fun i => ?_, fun i hi => ?_, fun p => ?_⟩
  · rw [getG_push hf]
    constructor
    · intro hx
      by_cases e : i = idV (vcX k)
      · exact ⟨k, by omega, e⟩
      · rw [if_neg e] at hx
        obtain ⟨j, hj, he⟩ := (h.m1 _).1 hx
        exact ⟨j, by omega, he⟩
    · rintro ⟨j, hj, rfl⟩
      by_cases e : idV (vcX j) = idV (vcX k)
      · rw [if_pos e]; rfl
      · rw [if_neg e]
        refine (h.m1 _).2 ⟨j, ?_, rfl⟩
        rcases Nat.lt_or_eq_of_le (Nat.lt_succ_iff.1 hj) with hlt | rfl
        · exact hlt
        · exact absurd rfl e
  · unfold outsV
    rw [getG_push hf]
    by_cases e : idV (vcX i) = idV (vcX k)
    · rw [if_pos e]
      have := vc_ids (by omega) hk e
      subst this
      rfl
    · rw [if_neg e]
      refine h.m2 i ?_
      rcases Nat.lt_or_eq_of_le (Nat.lt_succ_iff.1 hi) with hlt | rfl
      · exact hlt
      · exact absurd rfl e
  · show (getG (putG gone (vcF k) (idV (vcX k))) p).isSome = true ↔ _
    rw [getG_put]
    constructor
    · intro hx
      by_cases e : p = vcF k
      · exact ⟨k, by omega, e⟩
      · rw [if_neg e] at hx
        obtain ⟨j, hj, he⟩ := (h.g1 _).1 hx
        exact ⟨j, by omega, he⟩
    · rintro ⟨j, hj, rfl⟩
      by_cases e : vcF j = vcF k
      · rw [if_pos e]; rfl
      · rw [if_neg e]
        refine (h.g1 _).2 ⟨j, ?_, rfl⟩
        rcases Nat.lt_or_eq_of_le (Nat.lt_succ_iff.1 hj) with hlt | rfl
        · exact hlt
        · exact absurd rfl e
theorem delG_length {α β : Type} [DecidableEq α] {l : List (α × β)} {a : α} (hp : l.Pairwise (fun x y => x.1 ≠ y.1)) (h : (getG l a).isSome = true) : (delG l a).length + 1 = l.length := by
  obtain ⟨b, hb⟩ := Option.isSome_iff_exists.1 h
  obtain ⟨j, hj⟩ := List.getElem?_of_mem (getG_mem hb)
  have hlt := (List.getElem?_eq_some_iff.1 hj).1
  rw [← delG_idx hp hj rfl, List.length_eraseIdx, if_pos hlt]
  omega
theorem VcS.take (h : VcS (k + 1) made gone) (hk : k < 20) (hp : made.Pairwise (fun x y => x.1 ≠ y.1)) : VcS k (delG made (idV (vcX k))) (goneT gone (vcX k).ins) := by
  refine ⟨?_, fun i => ?_, fun i hi => ?_, fun p => ?_⟩
  · have := delG_length hp ((h.m1 _).2 ⟨k, by omega, rfl⟩)
    have := h.len
    omega
  · rw [getG_del]
    constructor
    · intro hx
      by_cases e : i = idV (vcX k)
      · rw [if_pos e] at hx; cases hx
      · rw [if_neg e] at hx
        obtain ⟨j, hj, he⟩ := (h.m1 _).1 hx
        refine ⟨j, ?_, he⟩
        rcases Nat.lt_or_eq_of_le (Nat.lt_succ_iff.1 hj) with hlt | rfl
        · exact hlt
        · exact absurd he e
    · rintro ⟨j, hj, rfl⟩
      rw [if_neg (fun e => by have := vc_ids (by omega) hk e; omega)]
      exact (h.m1 _).2 ⟨j, by omega, rfl⟩
  · unfold outsV
    rw [getG_del, if_neg (fun e => by have := vc_ids (by omega) hk e; omega)]
    exact h.m2 i (by omega)
  · show (getG (delG gone (vcF k)) p).isSome = true ↔ _
    rw [getG_del]
    constructor
    · intro hx
      by_cases e : p = vcF k
      · rw [if_pos e] at hx; cases hx
      · rw [if_neg e] at hx
        obtain ⟨j, hj, he⟩ := (h.g1 _).1 hx
        refine ⟨j, ?_, he⟩
        rcases Nat.lt_or_eq_of_le (Nat.lt_succ_iff.1 hj) with hlt | rfl
        · exact hlt
        · exact absurd he e
    · rintro ⟨j, hj, rfl⟩
      rw [if_neg (fun e => by have := vc_from (by omega) (by omega) e; omega)]
      exact (h.g1 _).2 ⟨j, by omega, rfl⟩
theorem vc_set (i : Nat) (id : List UInt8) : getC [⟨vcP0, c⟩] ⟨id, 0⟩ = none := by
  unfold getC
  rw [List.find?_eq_none.2 (fun x hx => by
    rw [List.mem_singleton.1 hx]
    simp only [decide_eq_true_eq]
    intro e
    have := congrArg TPt.n e
    simp [vcP0] at this)]
  rfl
theorem vc_set0 : getC [⟨vcP0, c⟩] vcP0 = some c := by
  unfold getC
  simp
theorem VcS.notGone (h : VcS k made gone) (hk : k ≤ 20) : getG gone (vcF k) = none := isSome_none fun e => by
  obtain ⟨i, hi, he⟩ := (h.g1 _).1 e
  have := vc_from hk (by omega) he
  omega
theorem VcS.get (h : VcS (k + 1) made gone) (hk : k < 20) : vGet [⟨vcP0, c⟩] made gone (vcF (k + 1)) = some (mnOf 7 ⟨k, zH⟩) := by
  unfold vGet
  rw [if_neg (by rw [h.notGone (by omega)]; decide), if_neg (by rw [vcF_succ, vc_set 0]; decide), vcF_succ]
  show (outsV made (idV (vcX k)))[0]? = _
  rw [h.m2 k (by omega)]
  rfl
theorem VcS.gone0 (h : VcS (k + 1) made gone) : vGet [⟨vcP0, c⟩] made gone vcP0 = none := by
  unfold vGet
  rw [if_pos ((h.g1 vcP0).2 ⟨0, by omega, rfl⟩)]
theorem VcS.get0 (h : VcS 0 made gone) : vGet [⟨vcP0, c⟩] made gone vcP0 = some c := by
  unfold vGet
  have := h.notGone (by omega)
  rw [show vcF 0 = vcP0 from rfl] at this
  rw [if_neg (by rw [this]; decide), if_pos (by rw [vc_set0]; rfl), vc_set0]
theorem VcS.there (h : VcS k made gone) (hk : k < 20) : (vGet [⟨vcP0, c⟩] made gone (vcF k)).isSome = true := by
  cases k with
  | zero => show (vGet [⟨vcP0, c⟩] made gone vcP0).isSome = true; rw [h.get0]; rfl
  | succ k => rw [h.get (by omega)]; rfl
theorem VcS.putV (h : VcS k made gone) (hk : k < 20) : putV [⟨vcP0, c⟩] made gone (vcX k) = 0 := by
  unfold Sha.putV
  rw [if_neg (by rw [h.fresh hk]; decide), if_neg]
  have h1 : ((vcX k).ins.all fun x => (vGet [⟨vcP0, c⟩] made gone (ptIn x)).isSome) = true := by
    show ([(⟨(vcF k).h, (vcF k).n, [], 0⟩ : TIn)].all _) = true
    rw [List.all_cons, List.all_nil, Bool.and_true]
    exact h.there hk
  have h2 : outIs [⟨vcP0, c⟩] (idV (vcX k)) (vcX k).outs.length = false := by
    show ((List.range 1).any fun i => (getC [⟨vcP0, c⟩] ⟨idV (vcX k), i⟩).isSome) = false
    show ([0].any fun i => (getC [⟨vcP0, c⟩] ⟨idV (vcX k), i⟩).isSome) = false
    rw [List.any_cons, List.any_nil, vc_set 0]
    rfl
  rw [h1, h2]
  decide
theorem VcS.takeV (h : VcS n made gone) (hn : n ≤ 20) (hk : k < n) : takeV made gone (vcX k) = if k + 1 < n then 13 else 0 := by
  unfold Sha.takeV
  rw [if_pos ((h.m1 _).2 ⟨k, hk, rfl⟩)]
  have e : outGone gone (idV (vcX k)) (vcX k).outs.length = (getG gone (vcF (k + 1))).isSome := by
    show ([0].any fun i => (getG gone ⟨idV (vcX k), i⟩).isSome) = _
    rw [List.any_cons, List.any_nil, Bool.or_false]
    rfl
  rw [e]
  by_cases hlt : k + 1 < n
  · rw [if_pos hlt, if_pos ((h.g1 _).2 ⟨k + 1, hlt, rfl⟩)]
  · have : k + 1 = n := by omega
    rw [if_neg hlt, this, if_neg (by rw [h.notGone hn]; decide)]
theorem VcS.takeV0 (h : VcS 0 made gone) : Sha.takeV made gone (vcX 0) = 23 := by
  unfold Sha.takeV
  rw [if_neg (by rw [h.fresh (by omega)]; decide)]
end
end Go.Proofs.YtgcoegbamoehfaaDoor.Sha

/-
  Package tx tells how long the longest key of a transaction is, and whether a number is between two. Nothing that was there turns. Condition: a transaction of a few inputs and outputs that lies in memory.
-/
namespace Go.Proofs.YtgcoegbamoehfaaDoor.Sha
open Go Go.RowKit
/-- The longest key of so many inputs. -/
def mostKey (l : List TIn) : Nat := l.foldl (fun m x => max m x.key.length) 0
theorem mostKey_snoc {l : List TIn} {k : Nat} {x : TIn} (h : l[k]? = some x) : mostKey (l.take (k + 1)) = max (mostKey (l.take k)) x.key.length := by
  have hk := List.getElem?_eq_some_iff.1 h
  rw [List.take_succ_eq_append_getElem hk.1, hk.2]
  simp [mostKey, List.foldl_append]
theorem fold_key : ∀ (l : List TIn) (m : Nat), (80 < l.foldl (fun m x => max m x.key.length) m) ↔ (80 < m ∨ ∃ x ∈ l, 80 < x.key.length)
  | [], m => by simp
  | x :: l, m => by
    rw [List.foldl_cons, fold_key l]
    simp only [List.mem_cons, exists_eq_or_imp]
    constructor
    · rintro (h | h)
      · by_cases hm : 80 < m
        · exact .inl hm
        · exact .inr (.inl (by omega))
      · exact .inr (.inr h)
    · rintro (h | h | h)
      · exact .inl (by omega)
      · exact .inl (by omega)
      · exact .inr h
theorem mostKey_over (l : List TIn) : l.any (fun x => decide (80 < x.key.length)) = decide (80 < mostKey l) := by
  rw [Bool.eq_iff_iff, List.any_eq_true, decide_eq_true_eq, mostKey, fold_key]
  simp
def LkInv (n : Nat) (t : TTx) (w1 : World) (vs vi : Value) (wr : World) : Prop :=
  ∃ k s : Nat, k ≤ n ∧ vi = .int .i64 k ∧ s = mostKey (t.ins.take k) ∧ s ≤ 100000 ∧ vs = .int .i64 s ∧ Below w1.heap.size w1 wr
end Go.Proofs.YtgcoegbamoehfaaDoor.Sha

/-
  Package tx tells whether the amounts of a transaction are one that can be. Nothing that was there turns. Condition: a transaction of a few inputs and outputs that lies in memory.
-/
namespace Go.Proofs.YtgcoegbamoehfaaDoor.Sha
open Go Go.RowKit
def AddInv (base n : Nat) (t : TTx) (w1 : World) (vb vi : Value) (wr : World) : Prop :=
  ∃ (k : Nat) (vq : Value), vq = vb ∧ k ≤ n ∧ vi = .int .i64 k ∧ Below w1.heap.size w1 wr ∧ wr.ownsRow base 22 1 vq k (((t.outs.take k).map (·.val)).map uV)
end Go.Proofs.YtgcoegbamoehfaaDoor.Sha
