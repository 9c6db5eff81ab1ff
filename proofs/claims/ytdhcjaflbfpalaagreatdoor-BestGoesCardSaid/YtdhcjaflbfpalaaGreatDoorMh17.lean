/-
  Texts of this proof joined into one file: BtRk, BtIs, HpEnv. What each holds, and under which conditions, its own first sentence tells.
-/
import Derived.Sort.AtCall
import Derived.Shelf.Abstract
import Derived.Test.YtdhcjaflbfpalaaGreatDoorMh16
import Derived.Test.YtdhcjaflbfpalaaGreatDoorMh12
import Derived.Test.YtdhcjaflbfpalaaGreatDoorMh11
import Derived.Test.YtdhcjaflbfpalaaGreatDoorMh09
import Derived.Test.YtdhcjaflbfpalaaGreatDoorMh05
import Derived.Test.YtdhcjaflbfpalaaGreatDoorMh01
/-
  Ranks: which of two counts more, and that of a block. Nothing that was there turns. Conditions: the marks lie where the pointer says, over a tree.
-/
namespace Go.Proofs.YtdhcjaflbfpalaaGreatDoor.Sha
open Go Go.RowKit
theorem built_rk (r : Rk) : Tryz.prog.built 78 [(0, .int .u64 (r.work : Int)), (1, .agg (r.id.1.map bV).toArray)] = some (rkL r).toArray := by
  have hz : ∀ parts, Tryz.prog.built 78 parts = Instr.fill ([(0, 1), (1, 32)].toArray[·]?) ([] ++ ([Value.int .u64 0] ++ (List.replicate 32 (bV 0) ++ []))).toArray parts := fun parts => by kernel_rfl
  have l1 : (r.id.1.map bV).length = 32 := by rw [List.length_map, r.id.2]
  rw [hz, fill_mid _ 0 0 (.int .u64 (r.work : Int)) [Value.int .u64 (r.work : Int)] [] [Value.int .u64 0] _ _ rfl rfl rfl rfl, List.nil_append,
    fill_mid _ 1 1 (Value.agg (r.id.1.map bV).toArray) (r.id.1.map bV) [Value.int .u64 (r.work : Int)] (List.replicate 32 (bV 0)) _ _ rfl (by rw [l1]; rfl) rfl (by rw [l1]; rfl)]
  show some _ = some _
  congr 2
  simp [rkL]
theorem rkL_size (r : Rk) : (rkL r).toArray.size = 33 := by simp [rkL_length]
theorem rkL_all (r : Rk) : (rkL r).toArray.all (·.oneCell') = true := all_oneCell_toArray (rkL_one r)
set_option maxHeartbeats 2000000 in
set_option maxRecDepth 100000 in
theorem bkover_any (a c : Rk) (w : World) :
    Calls Tryz.prog 33 #[.agg (rkL a).toArray, .agg (rkL c).toArray] w fun e w' => e = .returned (.bool (overK a c)) ∧ Below w.heap.size w w' := by
  have RA : Hid (∀ (W : World) (g : Nat), W.heap[g]? = some (.cells (rkL a).toArray 78 (0, 0)) → W.cell? ⟨g, 0, none⟩ = some (.int .u64 (a.work : Int)) ∧ W.rangeAt g 1 (a.id.1.map bV)) := fun W g h => rkL_get (range_of_box h)
  have RB : Hid (∀ (W : World) (g : Nat), W.heap[g]? = some (.cells (rkL c).toArray 78 (0, 0)) → W.cell? ⟨g, 0, none⟩ = some (.int .u64 (c.work : Int)) ∧ W.rangeAt g 1 (c.id.1.map bV)) := fun W g h => rkL_get (range_of_box h)
  have LE : Hid (∀ W, Calls Tryz.prog 47 #[.agg (a.id.1.map bV).toArray, .agg (c.id.1.map bV).toArray] W fun e w' => e = .returned (.bool (lessL a.id.1 c.id.1)) ∧ Below W.heap.size W w') := fun W => less_any _ _ a.id.2 c.id.2 W
  have OK : Hid (overK a c = if a.work = c.work then lessL a.id.1 c.id.1 else decide (c.work < a.work)) := rfl
  obtain ⟨q, hq⟩ : ∃ q, q = overK a c := ⟨_, rfl⟩
  rw [← hq] at OK ⊢
  have LI : Hid ((a.id.1.map bV).length = 32) := by show _ = _; rw [List.length_map, a.id.2]
  have LJ : Hid ((c.id.1.map bV).length = 32) := by show _ = _; rw [List.length_map, c.id.2]
  obtain ⟨ci, hci⟩ : ∃ ci, ci = a.id.1.map bV := ⟨_, rfl⟩
  obtain ⟨cj, hcj⟩ : ∃ cj, cj = c.id.1.map bV := ⟨_, rfl⟩
  rw [← hci] at RA LE LI
  rw [← hcj] at RB LE LJ
  obtain ⟨l, hl⟩ : ∃ l, l = lessL a.id.1 c.id.1 := ⟨_, rfl⟩
  rw [← hl] at LE OK
  obtain ⟨cr, hcr⟩ : ∃ cr, cr = rkL a := ⟨_, rfl⟩
  obtain ⟨cs, hcs⟩ : ∃ cs, cs = rkL c := ⟨_, rfl⟩
  rw [← hcr] at RA ⊢
  rw [← hcs] at RB ⊢
  obtain ⟨x, hx⟩ : ∃ x, x = a.work := ⟨_, rfl⟩
  obtain ⟨y, hy⟩ : ∃ y, y = c.work := ⟨_, rfl⟩
  rw [← hx] at RA OK
  rw [← hy] at RB OK
  clear hq hci hcj hl hcr hcs hx hy a c
  go_enter Tryz.func33, Tryz.ntmps33
  go_upto_region 1 with fail
  have f0 := row_below (heap_alloc_new w (.cells cr.toArray 78 (0, 0))) ((Below.refl _ _).alloc (Nat.le_refl _) (.cells cs.toArray 78 (0, 0)))
  have f1 := heap_alloc_new (w.alloc (.cells cr.toArray 78 (0, 0))) (.cells cs.toArray 78 (0, 0))
  have bb : Below w.heap.size w ((w.alloc (.cells cr.toArray 78 (0, 0))).alloc (.cells cs.toArray 78 (0, 0))) := (((Below.refl w.heap.size w).alloc (by first | exact Nat.le_refl _ | (simp only [World.size_alloc]; omega)) (.cells cr.toArray 78 (0, 0))).alloc (by first | exact Nat.le_refl _ | (simp only [World.size_alloc]; omega)) (.cells cs.toArray 78 (0, 0)))
  simp only [World.size_alloc] at f1
  generalize hq : World.alloc _ _ = w1
  have eq : (w.alloc (.cells cr.toArray 78 (0, 0))).alloc (.cells cs.toArray 78 (0, 0)) = w1 := hq
  rw [eq] at f0 f1 bb
  obtain ⟨gb, hgb⟩ : ∃ gb, gb = w.heap.size + 1 := ⟨_, rfl⟩
  have Ggb : Hid (w.heap.size ≤ gb) := by show _ ≤ _; omega
  rw [← hgb] at f1 ⊢
  obtain ⟨ga, hga⟩ : ∃ ga, ga = w.heap.size := ⟨_, rfl⟩
  have Gga : Hid (w.heap.size ≤ ga) := by show _ ≤ _; omega
  rw [← hga] at f0 ⊢
  have FA := Lib.hid f0
  have FB := Lib.hid f1
  have B1 := Lib.hid bb
  clear f0 f1 bb hq eq hga hgb
  have RI := Lib.hid (RA.out w1 ga FA.out).2
  have RJ := Lib.hid (RB.out w1 gb FB.out).2
  have ca := (RA.out w1 ga FA.out).1
  have cb := (RB.out w1 gb FB.out).1
  clear RA RB
  by_cases h : x = y
  · subst h
    rw [if_pos rfl] at OK
    go_wp2_with ((with_reducible show wpList _ _ _ _ _ _); first | (refine wpList_load_mid rfl 26 (.tmp 15) rfl ga 1 rfl ci _ RI.out Tryz.underlying26 rfl (by rw [LI.out]; kernel_rfl) ?_; go_frame) | (refine wpList_load_mid rfl 26 (.tmp 17) rfl gb 1 rfl cj _ RJ.out Tryz.underlying26 rfl (by rw [LJ.out]; kernel_rfl) ?_; go_frame))
    refine (LE.out w1).mono ?_
    rintro e w2 ⟨rfl, bb⟩
    go_wp2_with fail
    go_ret
    exact ⟨by rw [OK.out]; rfl, B1.out.trans (bb.mono B1.out.size)⟩
  · rw [if_neg h] at OK
    have h' : ¬ ((x : Int) = (y : Int)) := by omega
    by_cases h2 : y < x
    · have h2' : (y : Int) < (x : Int) := by omega
      rw [decide_eq_true h2] at OK
      clear h h2
      go_wp2_with fail
      go_ret
      exact ⟨by rw [OK.out]; simp [h2'], B1.out⟩
    · have h2' : ¬ ((y : Int) < (x : Int)) := by omega
      rw [decide_eq_false h2] at OK
      clear h h2
      go_wp2_with fail
      go_ret
      exact ⟨by rw [OK.out]; simp [h2'], B1.out⟩
set_option maxHeartbeats 2000000 in
set_option maxRecDepth 100000 in
theorem bkrank_any (w : World) (base b tb bm mm tbase tm : Nat) (lv : Value) (B Mt : IdSet) (d : Array Rk) (M : List CNd) (id : OH) (hm : MkAt w base b tb bm mm lv B Mt d) (ht : CtAt w tbase tb tm M) (tr : TrL (ndM M)) :
    Calls Tryz.prog 44 #[(.pointer (some ⟨b, 0, none⟩)), .agg (id.1.map bV).toArray] w fun e w' => e = .returned (.tuple #[.agg (rkL (rnkT (ndM M) id)).toArray, .bool (ofT (ndM M) id.1).2.2.2]) ∧ Below w.heap.size w w' := by
  have CE := Lib.hid hm.cells
  have HM := Lib.hid hm
  have WK : Hid (∀ W, Below w.heap.size w W → Calls Tryz.prog 63 #[(.pointer (some ⟨tb, 0, none⟩)), .agg (id.1.map bV).toArray] W fun e w' => e = .returned (.tuple #[.int .u64 ((ofT (ndM M) id.1).2.2.1 : Int), .bool (ofT (ndM M) id.1).2.2.2]) ∧ Below W.heap.size W w') := fun W hW => ctwork_any W tbase tb tm M id.1 (ht.below hW) tr id.2
  have LI : Hid ((id.1.map bV).length = 32) := by show _ = _; rw [List.length_map, id.2]
  have SC : Hid ((id.1.map bV).toArray.size = 32) := by show _ = _; rw [List.size_toArray]; exact LI.out
  have BK := Lib.hid (built_rk (rnkT (ndM M) id))
  have RE : Hid (rnkT (ndM M) id = ⟨(ofT (ndM M) id.1).2.2.1, id⟩) := rfl
  obtain ⟨r, hr⟩ : ∃ r, r = rnkT (ndM M) id := ⟨_, rfl⟩
  have EW : (ofT (ndM M) id.1).2.2.1 = r.work := by rw [hr]; rfl
  have BK : Hid (Tryz.prog.built 78 [(0, .int .u64 (r.work : Int)), (1, .agg (id.1.map bV).toArray)] = some (rkL r).toArray) := by rw [hr]; exact BK.out
  rw [← hr]
  rw [EW] at WK
  have SR : Hid ((rkL r).toArray.size = 33) := rkL_size r
  have AR : Hid ((rkL r).toArray.all (·.oneCell') = true) := rkL_all r
  obtain ⟨cr, hcr⟩ : ∃ cr, cr = rkL r := ⟨_, rfl⟩
  rw [← hcr] at BK SR AR ⊢
  obtain ⟨x, hx⟩ : ∃ x, x = r.work := ⟨_, rfl⟩
  rw [← hx] at BK WK
  obtain ⟨bo, hbo⟩ : ∃ bo, bo = (ofT (ndM M) id.1).2.2.2 := ⟨_, rfl⟩
  rw [← hbo] at WK ⊢
  obtain ⟨ci, hci⟩ : ∃ ci, ci = id.1.map bV := ⟨_, rfl⟩
  rw [← hci] at WK LI SC BK ⊢
  clear hm ht tr RE hr EW hcr hx hbo hci
  go_enter Tryz.func44, Tryz.ntmps44
  go_upto_region 1 with fail
  have f0 := row_below (heap_alloc_new w (.cells ci.toArray 26 (0, 0))) ((Below.refl _ _).alloc (Nat.le_refl _) (.cells (Value.int .u64 0 :: List.replicate 32 (bV 0)).toArray 78 (0, 0)))
  have f1 := heap_alloc_new (w.alloc (.cells ci.toArray 26 (0, 0))) (.cells (Value.int .u64 0 :: List.replicate 32 (bV 0)).toArray 78 (0, 0))
  have bb : Below w.heap.size w ((w.alloc (.cells ci.toArray 26 (0, 0))).alloc (.cells (Value.int .u64 0 :: List.replicate 32 (bV 0)).toArray 78 (0, 0))) := (((Below.refl w.heap.size w).alloc (by first | exact Nat.le_refl _ | (simp only [World.size_alloc]; omega)) (.cells ci.toArray 26 (0, 0))).alloc (by first | exact Nat.le_refl _ | (simp only [World.size_alloc]; omega)) (.cells (Value.int .u64 0 :: List.replicate 32 (bV 0)).toArray 78 (0, 0)))
  simp only [World.size_alloc] at f1
  generalize hq : World.alloc _ _ = w1
  have eq : (w.alloc (.cells ci.toArray 26 (0, 0))).alloc (.cells (Value.int .u64 0 :: List.replicate 32 (bV 0)).toArray 78 (0, 0)) = w1 := hq
  rw [eq] at f0 f1 bb
  obtain ⟨g4, hg4⟩ : ∃ g4, g4 = w.heap.size + 1 := ⟨_, rfl⟩
  have Gg4 : Hid (w.heap.size ≤ g4) := by show _ ≤ _; omega
  rw [← hg4] at f1 ⊢
  obtain ⟨g3, hg3⟩ : ∃ g3, g3 = w.heap.size := ⟨_, rfl⟩
  have Gg3 : Hid (w.heap.size ≤ g3) := by show _ ≤ _; omega
  rw [← hg3] at f0 ⊢
  have F3 := Lib.hid f0
  have F4 := Lib.hid f1
  have B1 := Lib.hid bb
  clear f0 f1 bb hq eq hg3 hg4
  refine wp_region_held_drew (S := (fun w' => Below w1.heap.size w1 w')) (by kernel_rfl) (Below.drew (Below.refl _ _)) (fun hHeld => ?_)
  generalize hwd : w1.drew = wd at  hHeld ⊢
  clear hwd
  refine held_take (i := 0) (v := (.pointer (some ⟨b, 0, none⟩))) rfl (by kernel_rfl) (by kernel_rfl) (by kernel_rfl) (fun _ _ _ h => h) (Or.inl ⟨by rfl, fun w' _ => by kernel_rfl⟩) hHeld ?_
  go_frame
  refine held_take (i := 1) (v := (.pointer (some ⟨b, 0, none⟩))) rfl (by kernel_rfl) (by kernel_rfl) (by kernel_rfl) (fun _ _ _ h => h) (Or.inl ⟨by rfl, fun w' _ => by kernel_rfl⟩) hHeld ?_
  go_frame
  refine held_take (i := 2) (v := (.pointer (some ⟨b, 0, none⟩))) rfl (by kernel_rfl) (by kernel_rfl) (by kernel_rfl) (fun _ _ _ h => h) (Or.inl ⟨by rfl, fun w' _ => by kernel_rfl⟩) hHeld ?_
  go_frame
  refine held_take (i := 3) (v := (.pointer (some ⟨tb, 0, none⟩))) rfl (by kernel_rfl) (by kernel_rfl) (by kernel_rfl) (fun _ _ _ h => h) (yieldsIf_load_one (by rfl) 33 (.tmp 11) rfl b (0) rfl _ _ (fun w' hw' => cell_below CE.out.1 (B1.out.trans (hw'.mono B1.out.size))) Tryz.underlying33 rfl) hHeld ?_
  go_frame
  refine held_take (i := 4) (v := (.agg ci.toArray)) rfl (by kernel_rfl) (by kernel_rfl) (by kernel_rfl) (fun _ _ _ h => h) (yieldsIf_load_row (by rfl) 26 (.tmp 3) rfl g3 rfl 26 ci.toArray (0, 0) _ (fun w' hw' => row_below F3.out hw') Tryz.underlying26 rfl (by rw [SC.out]; kernel_rfl)) hHeld ?_
  go_frame
  refine wpAnyH_ready (rs := [5]) (by kernel_rfl) (by simp) (held_cons rfl (fun K hK => ?_) AllReadyH.nil)
  go_simp
  refine (WK.out _ (B1.out.trans (hHeld.mono B1.out.size))).mono ?_
  rintro e v1 ⟨rfl, bb⟩
  have hv1 := hHeld.trans (bb.mono hHeld.size)
  clear bb hHeld
  go_wp2_with fail
  refine hK.out _ _ hv1 (fun hHeld => ?_)
  clear hK K hv1
  refine held_take (i := 6) (v := (.tuple #[.int .u64 (x : Int), .bool bo])) rfl (by kernel_rfl) (by kernel_rfl) (by kernel_rfl) (fun _ _ _ h => h) (Or.inl ⟨by rfl, fun w' _ => by kernel_rfl⟩) hHeld ?_
  go_frame
  refine held_take (i := 7) (v := (.int .u64 (x : Int))) rfl (by kernel_rfl) (by kernel_rfl) (by kernel_rfl) (fun _ _ _ h => h) (Or.inl ⟨by rfl, fun w' _ => by kernel_rfl⟩) hHeld ?_
  go_frame
  refine held_take (i := 8) (v := (.bool bo)) rfl (by kernel_rfl) (by kernel_rfl) (by kernel_rfl) (fun _ _ _ h => h) (Or.inl ⟨by rfl, fun w' _ => by kernel_rfl⟩) hHeld ?_
  go_frame
  refine held_take (i := 9) (v := (.int .u64 (x : Int))) rfl (by kernel_rfl) (by kernel_rfl) (by kernel_rfl) (fun _ _ _ h => h) (Or.inl ⟨by rfl, fun w' _ => by kernel_rfl⟩) hHeld ?_
  go_frame
  refine held_take (i := 10) (v := (.bool bo)) rfl (by kernel_rfl) (by kernel_rfl) (by kernel_rfl) (fun _ _ _ h => h) (Or.inl ⟨by rfl, fun w' _ => by kernel_rfl⟩) hHeld ?_
  go_frame
  refine wpAnyH_done (by kernel_rfl) ?_ _
  obtain ⟨v9, hv9⟩ : ∃ v9, v9 = v1 := ⟨_, rfl⟩
  rw [← hv9] at  hHeld ⊢
  clear hv9
  have B2 := Lib.hid (B1.out.trans (hHeld.mono B1.out.size))
  have F3 := Lib.hid (row_below F3.out hHeld)
  have F4 := Lib.hid (row_below F4.out hHeld)
  clear hHeld WK B1
  go_wp2_with ((with_reducible show wpList _ _ _ _ _ _); first | (refine wpList_load_row rfl 26 (.tmp 3) rfl g3 rfl 26 ci.toArray (0, 0) _ F3.out Tryz.underlying26 rfl (by rw [SC.out]; kernel_rfl) ?_; go_frame) | (refine wpList_buildTo rfl 78 _ rfl _ rfl cr.toArray (by rw [← BK.out]; kernel_rfl) ?_; go_frame) | (refine wpList_store_row rfl 78 (.tmp 4) (.tmp 19) rfl g4 cr.toArray rfl rfl 78 _ F4.out (by rw [SR.out]; kernel_rfl) (by rw [SR.out]; rfl) AR.out ?_; go_frame))
  refine bodyPost_ret (results_row_tmp rfl _ _ g4 78 cr.toArray (0, 0) _ rfl (setRow_heap _ _ _ _ _ _ F4.out) Tryz.underlying78 rfl (by rw [SR.out]; kernel_rfl)) rfl ?_
  exact ⟨rfl, below_setRow B2.out (by have := Gg4.out; omega) _⟩
end Go.Proofs.YtdhcjaflbfpalaaGreatDoor.Sha

/-
  Is a block marked: from it down to the start. Nothing that was there turns. Conditions: the marks lie where the pointer says, over a tree.
-/
namespace Go.Proofs.YtdhcjaflbfpalaaGreatDoor.Sha
open Go Go.RowKit
theorem hdZ_ok' : HdOk ndZ.h := ⟨by decide, by decide, by decide, by decide, by decide, by decide⟩
theorem ofT_ok' {L : List TNd} (ht : TrL L) (id : List UInt8) : HdOk (ofT L id).1 ∧ 0 ≤ (ofT L id).2.1 ∧ (ofT L id).2.1 ≤ 4096 := by
  by_cases h : 0 ≤ findT L id
  · obtain ⟨k, x, _, hx, rfl⟩ := found h
    have o := ht.ok x (List.mem_of_getElem? hx)
    rw [ofT_at ht hx]
    exact ⟨o.2.1, o.2.2.2.2.1, o.2.2.2.2.2.1⟩
  · rw [ofT_none (by omega)]
    exact ⟨hdZ_ok', by decide, by decide⟩
def IsInv (L : List TNd) (B : IdSet) (id : List UInt8) (g3 : Nat) (w : World) (v : Value) (wr : World) : Prop :=
  ∃ (h : Nat) (q : List UInt8), v = .int .i64 (h : Int) ∧ h ≤ 4096 ∧ q.length = 32 ∧ wr.heap[g3]? = some (.cells (q.map bV).toArray 26 (0, 0)) ∧ isW L B h q = isM L B id ∧ Below w.heap.size w wr
set_option maxHeartbeats 3000000 in
set_option maxRecDepth 100000 in
theorem bkis_any (w : World) (base b tb bm mm tbase tm : Nat) (lv : Value) (B Mt : IdSet) (d : Array Rk) (M : List CNd) (id : List UInt8) (hm : MkAt w base b tb bm mm lv B Mt d) (ht : CtAt w tbase tb tm M) (tr : TrL (ndM M)) (hid : id.length = 32) :
    Calls Tryz.prog 20 #[(.pointer (some ⟨b, 0, none⟩)), .agg (id.map bV).toArray] w fun e w' => e = .returned (.bool (isM (ndM M) B id)) ∧ Below w.heap.size w w' := by
  have CE := Lib.hid hm.cells
  have LK : Hid (∀ (q : List UInt8) W, q.length = 32 → Below w.heap.size w W → (Instr.lookup 74 (.map (some bm)) (.agg (q.map bV).toArray) true).run Tryz.prog W = .ok (.tuple #[.agg #[], .bool (inI B q)]) W) := fun q W hq hW => gm_look mty_ids (hm.below hW).bad q hq
  have OK := ofT_ok' tr id
  have HG : Hid (∀ W, Below w.heap.size w W → Calls Tryz.prog 37 #[(.pointer (some ⟨tb, 0, none⟩)), .agg (id.map bV).toArray] W fun e w' => e = .returned (.tuple #[.int .i64 (ofT (ndM M) id).2.1, .bool (ofT (ndM M) id).2.2.2]) ∧ Below W.heap.size W w') := fun W hW => ctheight_any W tbase tb tm M id (ht.below hW) tr hid
  have HD : Hid (∀ (q : List UInt8) W, q.length = 32 → Below w.heap.size w W → Calls Tryz.prog 43 #[(.pointer (some ⟨tb, 0, none⟩)), .agg (q.map bV).toArray] W fun e w' => e = .returned (.tuple #[.agg (hdL (ofT (ndM M) q).1).toArray, .bool (ofT (ndM M) q).2.2.2]) ∧ Below W.heap.size W w') := fun q W hq hW => cthead_any W tbase tb tm M q (ht.below hW) tr hq
  have OKQ : Hid (∀ q, HdOk (ofT (ndM M) q).1) := fun q => (ofT_ok' tr q).1
  obtain ⟨L, hL⟩ : ∃ L, L = ndM M := ⟨_, rfl⟩
  rw [← hL] at OK HG HD OKQ ⊢
  obtain ⟨h0, hh0⟩ : ∃ h0 : Nat, h0 = (ofT L id).2.1.toNat := ⟨_, rfl⟩
  have HE : (ofT L id).2.1 = (h0 : Int) := by omega
  have H0 : Hid (h0 ≤ 4096) := by show _ ≤ _; omega
  have IS : Hid (isW L B h0 id = isM L B id) := by
    show _ = _
    unfold isM
    rw [← hh0]
  rw [HE] at HG
  obtain ⟨bo, hbo⟩ : ∃ bo, bo = (ofT L id).2.2.2 := ⟨_, rfl⟩
  rw [← hbo] at HG
  have SC : Hid ((id.map bV).toArray.size = 32) := by show _ = _; rw [List.size_toArray, List.length_map]; exact hid
  have LI := Lib.hid hid
  have TR : Hid True := trivial
  clear hm ht tr hid OK HE hh0 hbo hL
  go_enter Tryz.func20, Tryz.ntmps20
  go_upto_region 1 with fail
  have f0 := heap_alloc_new w (.cells (id.map bV).toArray 26 (0, 0))
  have bb : Below w.heap.size w (w.alloc (.cells (id.map bV).toArray 26 (0, 0))) := ((Below.refl w.heap.size w).alloc (by first | exact Nat.le_refl _ | (simp only [World.size_alloc]; omega)) (.cells (id.map bV).toArray 26 (0, 0)))
  generalize hq : World.alloc _ _ = w1
  have eq : w.alloc (.cells (id.map bV).toArray 26 (0, 0)) = w1 := hq
  rw [eq] at f0 bb
  obtain ⟨g3, hg3⟩ : ∃ g3, g3 = w.heap.size := ⟨_, rfl⟩
  have Gg3 : Hid (w.heap.size ≤ g3) := by show _ ≤ _; omega
  rw [← hg3] at f0 ⊢
  have F3 := Lib.hid f0
  have B1 := Lib.hid bb
  clear f0 bb hq eq hg3
  refine wp_region_held_drew (S := (fun w' => Below w1.heap.size w1 w')) (by kernel_rfl) (Below.drew (Below.refl _ _)) (fun hHeld => ?_)
  generalize hwd : w1.drew = wd at  hHeld ⊢
  clear hwd
  refine held_take (i := 0) (v := (.pointer (some ⟨b, 0, none⟩))) rfl (by kernel_rfl) (by kernel_rfl) (by kernel_rfl) (fun _ _ _ h => h) (Or.inl ⟨by rfl, fun w' _ => by kernel_rfl⟩) hHeld ?_
  go_frame
  refine held_take (i := 1) (v := (.pointer (some ⟨b, 0, none⟩))) rfl (by kernel_rfl) (by kernel_rfl) (by kernel_rfl) (fun _ _ _ h => h) (Or.inl ⟨by rfl, fun w' _ => by kernel_rfl⟩) hHeld ?_
  go_frame
  refine held_take (i := 2) (v := (.pointer (some ⟨b, 0, none⟩))) rfl (by kernel_rfl) (by kernel_rfl) (by kernel_rfl) (fun _ _ _ h => h) (Or.inl ⟨by rfl, fun w' _ => by kernel_rfl⟩) hHeld ?_
  go_frame
  refine held_take (i := 3) (v := (.pointer (some ⟨tb, 0, none⟩))) rfl (by kernel_rfl) (by kernel_rfl) (by kernel_rfl) (fun _ _ _ h => h) (yieldsIf_load_one (by rfl) 33 (.tmp 14) rfl b (0) rfl _ _ (fun w' hw' => cell_below CE.out.1 (B1.out.trans (hw'.mono B1.out.size))) Tryz.underlying33 rfl) hHeld ?_
  go_frame
  refine held_take (i := 4) (v := (.agg (id.map bV).toArray)) rfl (by kernel_rfl) (by kernel_rfl) (by kernel_rfl) (fun _ _ _ h => h) (yieldsIf_load_row (by rfl) 26 (.tmp 3) rfl g3 rfl 26 (id.map bV).toArray (0, 0) _ (fun w' hw' => row_below F3.out hw') Tryz.underlying26 rfl (by rw [SC.out]; kernel_rfl)) hHeld ?_
  go_frame
  refine wpAnyH_ready (rs := [5]) (by kernel_rfl) (by simp) (held_cons rfl (fun K hK => ?_) AllReadyH.nil)
  go_simp
  refine (HG.out _ (B1.out.trans (hHeld.mono B1.out.size))).mono ?_
  rintro e v1 ⟨rfl, bb⟩
  have hv1 := hHeld.trans (bb.mono hHeld.size)
  clear bb hHeld
  go_wp2_with fail
  refine hK.out _ _ hv1 (fun hHeld => ?_)
  clear hK K hv1
  refine held_take (i := 6) (v := (.tuple #[.int .i64 (h0 : Int), .bool bo])) rfl (by kernel_rfl) (by kernel_rfl) (by kernel_rfl) (fun _ _ _ h => h) (Or.inl ⟨by rfl, fun w' _ => by kernel_rfl⟩) hHeld ?_
  go_frame
  refine held_take (i := 7) (v := (.int .i64 (h0 : Int))) rfl (by kernel_rfl) (by kernel_rfl) (by kernel_rfl) (fun _ _ _ h => h) (Or.inl ⟨by rfl, fun w' _ => by kernel_rfl⟩) hHeld ?_
  go_frame
  refine held_take (i := 8) (v := (.bool bo)) rfl (by kernel_rfl) (by kernel_rfl) (by kernel_rfl) (fun _ _ _ h => h) (Or.inl ⟨by rfl, fun w' _ => by kernel_rfl⟩) hHeld ?_
  go_frame
  refine held_take (i := 9) (v := (.int .i64 (h0 : Int))) rfl (by kernel_rfl) (by kernel_rfl) (by kernel_rfl) (fun _ _ _ h => h) (Or.inl ⟨by rfl, fun w' _ => by kernel_rfl⟩) hHeld ?_
  go_frame
  refine held_take (i := 10) (v := (.bool bo)) rfl (by kernel_rfl) (by kernel_rfl) (by kernel_rfl) (fun _ _ _ h => h) (Or.inl ⟨by rfl, fun w' _ => by kernel_rfl⟩) hHeld ?_
  go_frame
  refine wpAnyH_done (by kernel_rfl) ?_ _
  obtain ⟨w2, hw2⟩ : ∃ w2, w2 = v1 := ⟨_, rfl⟩
  rw [← hw2] at  hHeld ⊢
  clear hw2
  have B2 := Lib.hid (B1.out.trans (hHeld.mono B1.out.size))
  have F2 := Lib.hid (row_below F3.out hHeld)
  clear hHeld HG B1 F3
  go_wp2_with fail
  go_loopw [5] (fun v wr => IsInv L B id g3 w v wr) (fun v _ => (intOf v).toNat)
  case atStart => exact ⟨h0, id, rfl, H0.out, LI.out, F2.out, IS.out, B2.out⟩
  case round =>
    clear B2 F2 IS H0 SC LI
    obtain ⟨h, q, rfl, h1, hq, hf, he, hb⟩ := hrel
    have K0 := Lib.hid h1
    have LQ0 := Lib.hid hq
    have FK := Lib.hid hf
    have EI := Lib.hid he
    have BK := Lib.hid hb
    clear h1 hf he hb
    cases h with
    | zero =>
      have e0 : ((0 : Nat) : Int) = 0 := rfl
      rw [e0]
      clear e0 hq
      go_wp2_with fail
      go_ret
      exact ⟨by rw [← EI.out]; rfl, BK.out⟩
    | succ k =>
      have K1 : Hid (k + 1 ≤ 4096) := K0.out
      have kp : (0 : Int) < ((k + 1 : Nat) : Int) := by omega
      have LQ : Hid (∀ W, Below w.heap.size w W → (Instr.lookup 74 (.map (some bm)) (.agg (q.map bV).toArray) true).run Tryz.prog W = .ok (.tuple #[.agg #[], .bool (inI B q)]) W) := fun W hW => LK.out q W hq hW
      have HDQ : Hid (∀ W, Below w.heap.size w W → Calls Tryz.prog 43 #[(.pointer (some ⟨tb, 0, none⟩)), .agg (q.map bV).toArray] W fun e w' => e = .returned (.tuple #[.agg (hdL (ofT L q).1).toArray, .bool (ofT L q).2.2.2]) ∧ Below W.heap.size W w') := fun W hW => HD.out q W hq hW
      have okq := OKQ.out q
      have CP : Hid (∀ (W : World) (g : Nat), W.heap[g]? = some (.cells (hdL (ofT L q).1).toArray 28 (0, 0)) → W.rangeAt g 1 ((ofT L q).1.prev.map bV)) := fun W g h => by simpa using hd_prev (range_of_box h)
      have LH : Hid ((hdL (ofT L q).1).length = 68) := hdL_length okq
      have OH : Hid ((hdL (ofT L q).1).toArray.all (·.oneCell') = true) := all_oneCell_toArray (hdL_one' _)
      have LPQ : Hid ((ofT L q).1.prev.length = 32) := okq.2.1
      have LP : Hid (((ofT L q).1.prev.map bV).length = 32) := by show _ = _; rw [List.length_map]; exact okq.2.1
      have SP : Hid (((ofT L q).1.prev.map bV).toArray.size = 32) := by show _ = _; rw [List.size_toArray]; exact LP.out
      have AP : Hid (((ofT L q).1.prev.map bV).toArray.all (·.oneCell') = true) := bV_one _
      have SQ : Hid ((q.map bV).toArray.size = 32) := by show _ = _; rw [List.size_toArray, List.length_map]; exact hq
      have EQ0 : Hid (isW L B (k + 1) q = (inI B q || isW L B k (ofT L q).1.prev)) := rfl
      obtain ⟨q1, hq1⟩ : ∃ q1, q1 = inI B q := ⟨_, rfl⟩
      rw [← hq1] at LQ EQ0
      have EQ1 := EQ0
      obtain ⟨b2, hb2⟩ : ∃ b2, b2 = (ofT L q).2.2.2 := ⟨_, rfl⟩
      rw [← hb2] at HDQ
      obtain ⟨ch, hch⟩ : ∃ ch, ch = hdL (ofT L q).1 := ⟨_, rfl⟩
      rw [← hch] at HDQ CP LH OH
      obtain ⟨cp, hcp⟩ : ∃ cp, cp = (ofT L q).1.prev.map bV := ⟨_, rfl⟩
      rw [← hcp] at CP LP SP AP
      have EP := Lib.hid hcp
      obtain ⟨cq, hcq⟩ : ∃ cq, cq = q.map bV := ⟨_, rfl⟩
      rw [← hcq] at LQ HDQ SQ FK
      clear hq okq EQ0 K0 hq1 hb2 hch hcp hcq LQ0
      go_upto_region 4 with fail
      refine wp_region_held_drew (S := (fun w' => Below wr.heap.size wr w')) (by kernel_rfl) (Below.drew (Below.refl _ _)) (fun hHeld => ?_)
      generalize hwd : wr.drew = wd at  hHeld ⊢
      clear hwd
      refine held_take (i := 0) (v := (.pointer (some ⟨b, 0, none⟩))) rfl (by kernel_rfl) (by kernel_rfl) (by kernel_rfl) (fun _ _ _ h => h) (Or.inl ⟨by rfl, fun w' _ => by kernel_rfl⟩) hHeld ?_
      go_frame
      refine held_take (i := 1) (v := (.pointer (some ⟨b, 0, none⟩))) rfl (by kernel_rfl) (by kernel_rfl) (by kernel_rfl) (fun _ _ _ h => h) (Or.inl ⟨by rfl, fun w' _ => by kernel_rfl⟩) hHeld ?_
      go_frame
      refine held_take (i := 2) (v := (.pointer (some ⟨b, 1, none⟩))) rfl (by kernel_rfl) (by kernel_rfl) (by kernel_rfl) (fun _ _ _ h => h) (Or.inl ⟨by rfl, fun w' _ => by kernel_rfl⟩) hHeld ?_
      go_frame
      refine held_take (i := 3) (v := (.map (some bm))) rfl (by kernel_rfl) (by kernel_rfl) (by kernel_rfl) (fun _ _ _ h => h) (yieldsIf_load_one (by rfl) 74 (.tmp 27) rfl b (1) rfl _ _ (fun w' hw' => cell_below CE.out.2.1 (BK.out.trans (hw'.mono BK.out.size))) Tryz.underlying74 rfl) hHeld ?_
      go_frame
      refine held_take (i := 4) (v := (.agg cq.toArray)) rfl (by kernel_rfl) (by kernel_rfl) (by kernel_rfl) (fun _ _ _ h => h) (yieldsIf_load_row (by rfl) 26 (.tmp 3) rfl g3 rfl 26 cq.toArray (0, 0) _ (fun w' hw' => row_below FK.out hw') Tryz.underlying26 rfl (by rw [SQ.out]; kernel_rfl)) hHeld ?_
      go_frame
      refine held_take (i := 5) (v := (.tuple #[.agg #[], .bool q1])) rfl (by kernel_rfl) (by kernel_rfl) (by kernel_rfl) (fun _ _ _ h => h) (yieldsIf_lookup (by rfl) 74 (.tmp 28) (.tmp 29) true rfl _ _ _ rfl rfl (fun w' hw' => LQ.out w' (BK.out.trans (hw'.mono BK.out.size)))) hHeld ?_
      go_frame
      refine held_take (i := 6) (v := (.tuple #[.agg #[], .bool q1])) rfl (by kernel_rfl) (by kernel_rfl) (by kernel_rfl) (fun _ _ _ h => h) (Or.inl ⟨by rfl, fun w' _ => by kernel_rfl⟩) hHeld ?_
      go_frame
      refine held_take (i := 7) (v := (.agg #[])) rfl (by kernel_rfl) (by kernel_rfl) (by kernel_rfl) (fun _ _ _ h => h) (Or.inl ⟨by rfl, fun w' _ => by kernel_rfl⟩) hHeld ?_
      go_frame
      refine held_take (i := 8) (v := (.bool q1)) rfl (by kernel_rfl) (by kernel_rfl) (by kernel_rfl) (fun _ _ _ h => h) (Or.inl ⟨by rfl, fun w' _ => by kernel_rfl⟩) hHeld ?_
      go_frame
      refine wpAnyH_ready (rs := [9]) (by kernel_rfl) (by simp) (held_cons rfl (fun K hK => ?_) AllReadyH.nil)
      go_simp
      have nf := heap_alloc_new wd (.cells (([] : List Value)).toArray 96 (0, 0))
      have bb := (Below.refl wd.heap.size wd).alloc (Nat.le_refl _) (.cells (([] : List Value)).toArray 96 (0, 0))
      obtain ⟨gv1, hgv1⟩ : ∃ g, g = wd.heap.size := ⟨_, rfl⟩
      have GFS : Hid (wr.heap.size ≤ gv1) := by show _ ≤ _; rw [hgv1]; exact hHeld.size
      generalize hqv1 : World.alloc _ _ = v1
      have ev1 : wd.alloc (.cells (([] : List Value)).toArray 96 (0, 0)) = v1 := hqv1
      rw [ev1] at nf bb
      rw [← hgv1] at nf ⊢
      have FS := Lib.hid nf
      have hv1 := hHeld.trans (bb.mono hHeld.size)
      clear nf bb hqv1 ev1 hgv1 hHeld
      refine hK.out _ _ hv1 (fun hHeld => ?_)
      clear hK K hv1
      refine wpAnyH_ready (rs := [10]) (by kernel_rfl) (by simp) (held_cons rfl (fun K hK => ?_) AllReadyH.nil)
      rw [if_pos (by rfl)]
      refine wp_store_whole 96 (.tmp 7) (.tmp 31) rfl gv1 ([] : List Value) ([] : List Value) 96 rfl rfl (rfl) FS.out (by kernel_rfl) (by simp) ?_
      intro v2 q1 q2
      have FS := Lib.hid q1
      have hv2 := hHeld.grown q2 hHeld.size (fun k hk => by cases hk; exact GFS.out)
      clear q1 q2 hHeld
      go_frame
      refine hK.out _ _ hv2 (fun hHeld => ?_)
      clear hK K hv2
      refine held_take (i := 11) (v := (.bool q1)) rfl (by kernel_rfl) (by kernel_rfl) (by kernel_rfl) (fun _ _ _ h => h) (Or.inl ⟨by rfl, fun w' _ => by kernel_rfl⟩) hHeld ?_
      go_frame
      refine wpAnyH_done (by kernel_rfl) ?_ _
      obtain ⟨w5, hw5⟩ : ∃ w5, w5 = v2 := ⟨_, rfl⟩
      rw [← hw5] at  hHeld ⊢
      clear hw5
      have B5 := Lib.hid (BK.out.trans (hHeld.mono BK.out.size))
      have F5 := Lib.hid (row_below FK.out hHeld)
      clear hHeld FS LQ BK FK
      cases q1 with
      | true =>
        go_wp2_with fail
        go_ret
        exact ⟨by rw [← EI.out, EQ1.out]; rfl, B5.out⟩
      | false =>
        have IW : Hid (isW L B k (ofT L q).1.prev = isM L B id) := by
          show _ = _
          rw [← EI.out, EQ1.out]
          rfl
        go_upto_region 7 with fail
        refine wp_region_held_drew (S := (fun w' => Below w5.heap.size w5 w')) (by kernel_rfl) (Below.drew (Below.refl _ _)) (fun hHeld => ?_)
        generalize hwd : w5.drew = wd at  hHeld ⊢
        clear hwd
        refine held_take (i := 0) (v := (.pointer (some ⟨b, 0, none⟩))) rfl (by kernel_rfl) (by kernel_rfl) (by kernel_rfl) (fun _ _ _ h => h) (Or.inl ⟨by rfl, fun w' _ => by kernel_rfl⟩) hHeld ?_
        go_frame
        refine held_take (i := 1) (v := (.pointer (some ⟨b, 0, none⟩))) rfl (by kernel_rfl) (by kernel_rfl) (by kernel_rfl) (fun _ _ _ h => h) (Or.inl ⟨by rfl, fun w' _ => by kernel_rfl⟩) hHeld ?_
        go_frame
        refine held_take (i := 2) (v := (.pointer (some ⟨b, 0, none⟩))) rfl (by kernel_rfl) (by kernel_rfl) (by kernel_rfl) (fun _ _ _ h => h) (Or.inl ⟨by rfl, fun w' _ => by kernel_rfl⟩) hHeld ?_
        go_frame
        refine held_take (i := 3) (v := (.pointer (some ⟨tb, 0, none⟩))) rfl (by kernel_rfl) (by kernel_rfl) (by kernel_rfl) (fun _ _ _ h => h) (yieldsIf_load_one (by rfl) 33 (.tmp 37) rfl b (0) rfl _ _ (fun w' hw' => cell_below CE.out.1 (B5.out.trans (hw'.mono B5.out.size))) Tryz.underlying33 rfl) hHeld ?_
        go_frame
        refine held_take (i := 4) (v := (.agg cq.toArray)) rfl (by kernel_rfl) (by kernel_rfl) (by kernel_rfl) (fun _ _ _ h => h) (yieldsIf_load_row (by rfl) 26 (.tmp 3) rfl g3 rfl 26 cq.toArray (0, 0) _ (fun w' hw' => row_below F5.out hw') Tryz.underlying26 rfl (by rw [SQ.out]; kernel_rfl)) hHeld ?_
        go_frame
        refine wpAnyH_ready (rs := [5, 9]) (by kernel_rfl) (by simp) (held_cons rfl (fun K hK => ?_) (held_cons rfl (fun K hK => ?_) AllReadyH.nil))
        · skip
          go_simp
          refine (HDQ.out _ (B5.out.trans (hHeld.mono B5.out.size))).mono ?_
          rintro e v1 ⟨rfl, bb⟩
          have hv1 := hHeld.trans (bb.mono hHeld.size)
          clear bb hHeld
          go_wp2_with fail
          refine hK.out _ _ hv1 (fun hHeld => ?_)
          clear hK K hv1
          refine held_take (i := 6) (v := (.tuple #[.agg ch.toArray, .bool b2])) rfl (by kernel_rfl) (by kernel_rfl) (by kernel_rfl) (fun _ _ _ h => h) (Or.inl ⟨by rfl, fun w' _ => by kernel_rfl⟩) hHeld ?_
          go_frame
          refine held_take (i := 7) (v := (.agg ch.toArray)) rfl (by kernel_rfl) (by kernel_rfl) (by kernel_rfl) (fun _ _ _ h => h) (Or.inl ⟨by rfl, fun w' _ => by kernel_rfl⟩) hHeld ?_
          go_frame
          refine held_take (i := 8) (v := (.bool b2)) rfl (by kernel_rfl) (by kernel_rfl) (by kernel_rfl) (fun _ _ _ h => h) (Or.inl ⟨by rfl, fun w' _ => by kernel_rfl⟩) hHeld ?_
          go_frame
          refine wpAnyH_ready (rs := [9]) (by kernel_rfl) (by simp) (held_cons rfl (fun K hK => ?_) AllReadyH.nil)
          go_simp
          have nf := heap_alloc_new v1 (.cells (hdL hdZ).toArray 28 (0, 0))
          have bb := (Below.refl v1.heap.size v1).alloc (Nat.le_refl _) (.cells (hdL hdZ).toArray 28 (0, 0))
          obtain ⟨gv2, hgv2⟩ : ∃ g, g = v1.heap.size := ⟨_, rfl⟩
          have GF9 : Hid (w5.heap.size ≤ gv2) := by show _ ≤ _; rw [hgv2]; exact hHeld.size
          generalize hqv2 : World.alloc _ _ = v2
          have ev2 : v1.alloc (.cells (hdL hdZ).toArray 28 (0, 0)) = v2 := hqv2
          rw [ev2] at nf bb
          rw [← hgv2] at nf ⊢
          have F9 := Lib.hid nf
          have hv2 := hHeld.trans (bb.mono hHeld.size)
          clear nf bb hqv2 ev2 hgv2 hHeld
          refine hK.out _ _ hv2 (fun hHeld => ?_)
          clear hK K hv2
          refine wpAnyH_ready (rs := [10]) (by kernel_rfl) (by simp) (held_cons rfl (fun K hK => ?_) AllReadyH.nil)
          rw [if_pos (by rfl)]
          refine wp_store_whole 28 (.tmp 9) (.tmp 41) rfl gv2 (hdL hdZ) ch 28 rfl rfl (by rw [LH.out]; rfl) F9.out (by rw [LH.out]; kernel_rfl) (OH.out) ?_
          intro v3 q1 q2
          have F9 := Lib.hid q1
          have hv3 := hHeld.grown q2 hHeld.size (fun k hk => by cases hk; exact GF9.out)
          clear q1 q2 hHeld
          go_frame
          refine hK.out _ _ hv3 (fun hHeld => ?_)
          clear hK K hv3
          refine held_take (i := 11) (v := (.bool b2)) rfl (by kernel_rfl) (by kernel_rfl) (by kernel_rfl) (fun _ _ _ h => h) (Or.inl ⟨by rfl, fun w' _ => by kernel_rfl⟩) hHeld ?_
          go_frame
          refine wpAnyH_done (by kernel_rfl) ?_ _
          obtain ⟨w7, hw7⟩ : ∃ w7, w7 = v3 := ⟨_, rfl⟩
          rw [← hw7] at F9 hHeld ⊢
          clear hw7
          have B7 := Lib.hid (B5.out.trans (hHeld.mono B5.out.size))
          have F7 := Lib.hid (row_below F5.out hHeld)
          have RP := Lib.hid (CP.out _ _ F9.out)
          clear hHeld F9 B5 F5
          have kle : k ≤ 4096 := by have := K1.out; omega
          go_wp2_with ((with_reducible show wpList _ _ _ _ _ _); first | (refine wpList_load_mid rfl 26 (.tmp 43) rfl gv2 1 rfl cp _ RP.out Tryz.underlying26 rfl (by rw [LP.out]; kernel_rfl) ?_; go_frame) | (refine wpList_store_row rfl 26 (.tmp 3) (.tmp 44) rfl g3 cp.toArray rfl rfl 26 _ F7.out (by rw [SP.out]; kernel_rfl) (by rw [SP.out, SQ.out]) AP.out ?_; go_frame))
          go_roundw
          case rel => exact ⟨k, _, by go_num, by have := K1.out; omega, LPQ.out, (by rw [← EP.out]; exact setRow_heap _ _ _ _ _ _ F7.out), IW.out, below_setRow B7.out (by have := Gg3.out; omega) _⟩
          case measure => simp [intOf]
        · skip
          go_simp
          have nf := heap_alloc_new wd (.cells (hdL hdZ).toArray 28 (0, 0))
          have bb := (Below.refl wd.heap.size wd).alloc (Nat.le_refl _) (.cells (hdL hdZ).toArray 28 (0, 0))
          obtain ⟨gv4, hgv4⟩ : ∃ g, g = wd.heap.size := ⟨_, rfl⟩
          have GF9 : Hid (w5.heap.size ≤ gv4) := by show _ ≤ _; rw [hgv4]; exact hHeld.size
          generalize hqv4 : World.alloc _ _ = v4
          have ev4 : wd.alloc (.cells (hdL hdZ).toArray 28 (0, 0)) = v4 := hqv4
          rw [ev4] at nf bb
          rw [← hgv4] at nf ⊢
          have F9 := Lib.hid nf
          have hv4 := hHeld.trans (bb.mono hHeld.size)
          clear nf bb hqv4 ev4 hgv4 hHeld
          refine hK.out _ _ hv4 (fun hHeld => ?_)
          clear hK K hv4
          refine wpAnyH_ready (rs := [5]) (by kernel_rfl) (by simp) (held_cons rfl (fun K hK => ?_) AllReadyH.nil)
          go_simp
          refine (HDQ.out _ (B5.out.trans (hHeld.mono B5.out.size))).mono ?_
          rintro e v5 ⟨rfl, bb⟩
          have F9 := Lib.hid (row_below F9.out bb)
          have hv5 := hHeld.trans (bb.mono hHeld.size)
          clear bb hHeld
          go_wp2_with fail
          refine hK.out _ _ hv5 (fun hHeld => ?_)
          clear hK K hv5
          refine held_take (i := 6) (v := (.tuple #[.agg ch.toArray, .bool b2])) rfl (by kernel_rfl) (by kernel_rfl) (by kernel_rfl) (fun _ _ _ h => h) (Or.inl ⟨by rfl, fun w' _ => by kernel_rfl⟩) hHeld ?_
          go_frame
          refine held_take (i := 7) (v := (.agg ch.toArray)) rfl (by kernel_rfl) (by kernel_rfl) (by kernel_rfl) (fun _ _ _ h => h) (Or.inl ⟨by rfl, fun w' _ => by kernel_rfl⟩) hHeld ?_
          go_frame
          refine held_take (i := 8) (v := (.bool b2)) rfl (by kernel_rfl) (by kernel_rfl) (by kernel_rfl) (fun _ _ _ h => h) (Or.inl ⟨by rfl, fun w' _ => by kernel_rfl⟩) hHeld ?_
          go_frame
          refine wpAnyH_ready (rs := [10]) (by kernel_rfl) (by simp) (held_cons rfl (fun K hK => ?_) AllReadyH.nil)
          rw [if_pos (by rfl)]
          refine wp_store_whole 28 (.tmp 9) (.tmp 41) rfl gv4 (hdL hdZ) ch 28 rfl rfl (by rw [LH.out]; rfl) F9.out (by rw [LH.out]; kernel_rfl) (OH.out) ?_
          intro v6 q1 q2
          have F9 := Lib.hid q1
          have hv6 := hHeld.grown q2 hHeld.size (fun k hk => by cases hk; exact GF9.out)
          clear q1 q2 hHeld
          go_frame
          refine hK.out _ _ hv6 (fun hHeld => ?_)
          clear hK K hv6
          refine held_take (i := 11) (v := (.bool b2)) rfl (by kernel_rfl) (by kernel_rfl) (by kernel_rfl) (fun _ _ _ h => h) (Or.inl ⟨by rfl, fun w' _ => by kernel_rfl⟩) hHeld ?_
          go_frame
          refine wpAnyH_done (by kernel_rfl) ?_ _
          obtain ⟨w7, hw7⟩ : ∃ w7, w7 = v6 := ⟨_, rfl⟩
          rw [← hw7] at F9 hHeld ⊢
          clear hw7
          have B7 := Lib.hid (B5.out.trans (hHeld.mono B5.out.size))
          have F7 := Lib.hid (row_below F5.out hHeld)
          have RP := Lib.hid (CP.out _ _ F9.out)
          clear hHeld F9 B5 F5
          have kle : k ≤ 4096 := by have := K1.out; omega
          go_wp2_with ((with_reducible show wpList _ _ _ _ _ _); first | (refine wpList_load_mid rfl 26 (.tmp 43) rfl gv4 1 rfl cp _ RP.out Tryz.underlying26 rfl (by rw [LP.out]; kernel_rfl) ?_; go_frame) | (refine wpList_store_row rfl 26 (.tmp 3) (.tmp 44) rfl g3 cp.toArray rfl rfl 26 _ F7.out (by rw [SP.out]; kernel_rfl) (by rw [SP.out, SQ.out]) AP.out ?_; go_frame))
          go_roundw
          case rel => exact ⟨k, _, by go_num, by have := K1.out; omega, LPQ.out, (by rw [← EP.out]; exact setRow_heap _ _ _ _ _ _ F7.out), IW.out, below_setRow B7.out (by have := Gg3.out; omega) _⟩
          case measure => simp [intOf]
end Go.Proofs.YtdhcjaflbfpalaaGreatDoor.Sha

/-
  The library's container/heap over an abstract environment: what the five methods of the heap do is its premise. Conditions: those of HpE.
-/
namespace Go.Proofs.YtdhcjaflbfpalaaGreatDoor.Sha
open Go Go.RowKit
open Go.Sort (swp SWO size_swp)
structure HpE (α : Type) [Inhabited α] (lt : α → α → Bool) (ty : TypeId) (rv : Value) (enc : α → Value) (ok : α → Prop) (fl fw fs fu fo : Nat) where
  I : Array α → World → Prop
  R : World → World → Prop
  le : ∀ d W, I d W → d.size ≤ 1048576
  rr : ∀ W, R W W
  rt : ∀ a b c, R a b → R b c → R a c
  ml : ∀ (n : Nat) W, Sem.run Tryz.prog (method (n + 5) ty rv "Len") W = .ok (fl, rv) W
  mw : ∀ (n : Nat) W, Sem.run Tryz.prog (method (n + 5) ty rv "Less") W = .ok (fw, rv) W
  ms : ∀ (n : Nat) W, Sem.run Tryz.prog (method (n + 5) ty rv "Swap") W = .ok (fs, rv) W
  mu : ∀ (n : Nat) W, Sem.run Tryz.prog (method (n + 5) ty rv "Push") W = .ok (fu, rv) W
  mo : ∀ (n : Nat) W, Sem.run Tryz.prog (method (n + 5) ty rv "Pop") W = .ok (fo, rv) W
  el : ∀ args W, (callFunc fl args).run Tryz.prog W = .ok (.enter fl args) W
  ew : ∀ args W, (callFunc fw args).run Tryz.prog W = .ok (.enter fw args) W
  es : ∀ args W, (callFunc fs args).run Tryz.prog W = .ok (.enter fs args) W
  eu : ∀ args W, (callFunc fu args).run Tryz.prog W = .ok (.enter fu args) W
  eo : ∀ args W, (callFunc fo args).run Tryz.prog W = .ok (.enter fo args) W
  len : ∀ d W, I d W → Calls Tryz.prog fl #[rv] W fun e w' => e = .returned (.int .i64 (d.size : Int)) ∧ I d w' ∧ R W w'
  less : ∀ d W (i j : Nat), I d W → i < d.size → j < d.size → Calls Tryz.prog fw #[rv, .int .i64 (i : Int), .int .i64 (j : Int)] W fun e w' => e = .returned (.bool (lt d[i]! d[j]!)) ∧ I d w' ∧ R W w'
  swap : ∀ d W (i j : Nat), I d W → i < d.size → j < d.size → Calls Tryz.prog fs #[rv, .int .i64 (i : Int), .int .i64 (j : Int)] W fun e w' => e = .returned (.tuple #[]) ∧ I (swp d i j) w' ∧ R W w'
  push : ∀ d W x, I d W → ok x → d.size < 1048576 → Calls Tryz.prog fu #[rv, enc x] W fun e w' => e = .returned (.tuple #[]) ∧ I (d.push x) w' ∧ R W w'
  pop : ∀ d W (n : Nat), I d W → d.size = n + 1 → Calls Tryz.prog fo #[rv] W fun e w' => e = .returned (enc d[n]!) ∧ I d.pop w' ∧ R W w'
set_option maxHeartbeats 4000000 in
set_option maxRecDepth 100000 in
theorem hp_up {α : Type} [Inhabited α] {lt : α → α → Bool} {ty : TypeId} {rv : Value} {enc : α → Value} {ok : α → Prop} {fl fw fs fu fo : Nat} (E : HpE α lt ty rv enc ok fl fw fs fu fo) (hS : SWO lt) (w : World) (d : Array α) (n j : Nat) (hI : E.I d w) (hn : d.size = n) (hj : j < n) (hU : UpI lt n j d) :
    Calls Tryz.prog 76 #[(.iface ty rv), .int .i64 (j : Int)] w fun e w' => e = .returned (.tuple #[]) ∧ ∃ d' : Array α, d'.toList.Perm d.toList ∧ HeapP lt n d' ∧ d'.size = n ∧ E.I d' w' ∧ E.R w w' := by
  have mw := E.mw
  have ms := E.ms
  have ew := E.ew
  have es := E.es
  have LE := Lib.hid (E.le _ _ hI)
  have IH := Lib.hid hI
  have UH := Lib.hid hU
  have JN := Lib.hid hj
  have NS := Lib.hid hn
  clear hI hU hj hn
  go_enter Tryz.func76, Tryz.ntmps76
  go_wp2_with fail
  go_loopw [1] (fun vj wr => ∃ (k : Nat) (dk : Array α), vj = .int .i64 (k : Int) ∧ k < n ∧ dk.size = n ∧ E.I dk wr ∧ E.R w wr ∧ UpI lt n k dk ∧ dk.toList.Perm d.toList) (fun vj _ => (intOf vj).toNat)
  case atStart => exact ⟨j, d, rfl, JN.out, NS.out, IH.out, E.rr _, UH.out, List.Perm.refl _⟩
  case round =>
    clear IH UH JN
    obtain ⟨k, dk, rfl, hk, hs, hi, hr, hu, hp⟩ := hrel
    have IK := Lib.hid hi
    have RK := Lib.hid hr
    have UK := Lib.hid hu
    have PK := Lib.hid hp
    have SK := Lib.hid hs
    have KN := Lib.hid hk
    have kle : k ≤ 1048576 := by have := LE.out; have := NS.out; omega
    clear hi hr hu hp hs hk
    cases k with
    | zero =>
      have q1 : ((((0 : Nat) : Int) - 1).tdiv 2) = 0 := by decide
      go_wp2_with fail
      go_end0
      exact ⟨rfl, dk, PK.out, UK.out.zero, SK.out, IK.out, RK.out⟩
    | succ m =>
      obtain ⟨p, hp⟩ : ∃ p, p = m / 2 := ⟨_, rfl⟩
      have HP := Lib.hid hp
      have TD : Hid ((m : Int) / 2 = (p : Int)) := by show _ = _; rw [hp]; omega
      have pk : p < m + 1 := by omega
      clear hp
      have pne : ¬ ((p : Int) = ((m + 1 : Nat) : Int)) := by omega
      have hl := E.less dk wr (m + 1) p IK.out (by rw [SK.out]; exact KN.out) (by rw [SK.out]; have := KN.out; omega)
      have hs : ∀ W, E.I dk W → Calls Tryz.prog fs #[rv, .int .i64 (p : Int), .int .i64 ((m + 1 : Nat) : Int)] W fun e w' => e = .returned (.tuple #[]) ∧ E.I (swp dk p (m + 1)) w' ∧ E.R W w' := fun W h => E.swap dk W p (m + 1) h (by rw [SK.out]; have := KN.out; omega) (by rw [SK.out]; exact KN.out)
      have HS := Lib.hid hs
      clear hs
      go_upto_region 1 with fail
      rw [TD.out]
      cases hv : lt dk[m + 1]! dk[p]! with
      | false =>
        rw [hv] at hl
        go_wp2_with (go_at_fn fw; refine hl.mono ?_; rintro e w1 ⟨rfl, i', r'⟩; have I1 := Lib.hid i'; have R1 := Lib.hid (E.rt _ _ _ RK.out r'); clear i' r')
        go_end0
        exact ⟨rfl, dk, PK.out, UK.out.stop (by rw [show (m + 1 - 1) / 2 = p by have := HP.out; omega]; exact hv), SK.out, I1.out, R1.out⟩
      | true =>
        rw [hv] at hl
        go_upto_region 2 with (go_at_fn fw; refine hl.mono ?_; rintro e w1 ⟨rfl, i', r'⟩; have I1 := Lib.hid i'; have R1 := Lib.hid (E.rt _ _ _ RK.out r'); clear i' r')
        have hs := HS.out w1 I1.out
        go_wp2_with (go_at_fn fs; refine hs.mono ?_; rintro e w2 ⟨rfl, i', r'⟩; have I2 := Lib.hid i'; have R2 := Lib.hid (E.rt _ _ _ R1.out r'); clear i' r')
        go_roundw
        case rel =>
          refine ⟨p, _, rfl, by have := KN.out; omega, by rw [size_swp]; exact SK.out, I2.out, R2.out, ?_, ?_⟩
          · exact UK.out.step hS (by rw [SK.out]; exact Nat.le_refl _) (Nat.succ_pos m) KN.out (by have := HP.out; omega) hv
          · exact (swp_perm dk (by rw [SK.out]; have := KN.out; omega) (by rw [SK.out]; exact KN.out)).trans PK.out
        case measure => simp [intOf]; omega
def HpDn {α : Type} [Inhabited α] {lt : α → α → Bool} {ty : TypeId} {rv : Value} {enc : α → Value} {ok : α → Prop} {fl fw fs fu fo : Nat} (E : HpE α lt ty rv enc ok fl fw fs fu fo) (w : World) (d : Array α) (n : Nat) (e : Ending) (w' : World) : Prop :=
  ∃ b : Bool, e = .returned (.bool b) ∧ ∃ d' : Array α, d'.toList.Perm d.toList ∧ HeapP lt n d' ∧ d'.size = n + 1 ∧ d'[n]! = d[n]! ∧ E.I d' w' ∧ E.R w w'
set_option maxHeartbeats 4000000 in
set_option maxRecDepth 100000 in
theorem hp_down {α : Type} [Inhabited α] {lt : α → α → Bool} {ty : TypeId} {rv : Value} {enc : α → Value} {ok : α → Prop} {fl fw fs fu fo : Nat} (E : HpE α lt ty rv enc ok fl fw fs fu fo) (hS : SWO lt) (w : World) (d : Array α) (n : Nat) (hI : E.I d w) (hn : d.size = n + 1) (hD : DnI lt n 0 d) :
    Calls Tryz.prog 61 #[(.iface ty rv), .int .i64 0, .int .i64 (n : Int)] w (HpDn E w d n) := by
  have mw := E.mw
  have ms := E.ms
  have ew := E.ew
  have es := E.es
  have LE := Lib.hid (E.le _ _ hI)
  have IH := Lib.hid hI
  have DH := Lib.hid hD
  have NS := Lib.hid hn
  have nle : n ≤ 1048576 := by have := LE.out; have := NS.out; omega
  clear hI hD hn LE
  go_enter Tryz.func61, Tryz.ntmps61
  go_wp2_with fail
  go_loopw [7] (fun vi wr => ∃ (r : Nat) (dk : Array α), vi = .int .i64 (r : Int) ∧ (r < n ∨ r = 0) ∧ dk.size = n + 1 ∧ E.I dk wr ∧ E.R w wr ∧ DnI lt n r dk ∧ dk.toList.Perm d.toList ∧ dk[n]! = d[n]!) (fun vi _ => n - (intOf vi).toNat)
  case atStart => exact ⟨0, d, rfl, Or.inr rfl, NS.out, IH.out, E.rr _, DH.out, List.Perm.refl _, rfl⟩
  case round =>
    clear IH DH
    obtain ⟨r, dk, rfl, hk, hs, hi, hr, hu, hp, hln⟩ := hrel
    have IK := Lib.hid hi
    have RK := Lib.hid hr
    have DK := Lib.hid hu
    have PK := Lib.hid hp
    have SK := Lib.hid hs
    have LK := Lib.hid hln
    clear hi hr hu hp hs hln
    obtain ⟨c, hc⟩ : ∃ c, c = 2 * r + 1 := ⟨_, rfl⟩
    have EQC : Hid (2 * (r : Int) + 1 = (c : Int)) := by show _ = _; omega
    have HC := Lib.hid hc
    have rle : r ≤ 1048576 := by omega
    clear hc
    have c0 : ¬ ((c : Int) < 0) := by omega
    go_upto_region 3 with fail
    rw [EQC.out]
    by_cases h0 : n ≤ c
    · have q0 : (n : Int) ≤ (c : Int) := by omega
      go_wp2_with fail
      go_ret
      exact ⟨_, rfl, dk, PK.out, DK.out.none (by have := HC.out; omega), SK.out, LK.out, IK.out, RK.out⟩
    have q0 : ¬ ((n : Int) ≤ (c : Int)) := by omega
    by_cases h1 : c + 1 < n
    · have q1 : (c : Int) + 1 < (n : Int) := by omega
      have hl := E.less dk wr (c + 1) c IK.out (by rw [SK.out]; omega) (by rw [SK.out]; omega)
      rw [show ((c + 1 : Nat) : Int) = (c : Int) + 1 by omega] at hl
      cases hv1 : lt dk[c + 1]! dk[c]! with
      | true =>
        rw [hv1] at hl
        have SB : Hid (∀ k, 0 < k → k < n → (k - 1) / 2 = r → lt dk[k]! dk[c + 1]! = false) := fun k k0 k1 k2 => by
          have hc := HC.out
          rcases (show k = c ∨ k = c + 1 by omega) with rfl | rfl
          · exact swo_asym hS hv1
          · exact hS.irrefl _
        go_upto_region 8 with (go_at_fn fw; refine hl.mono ?_; rintro e w7 ⟨rfl, i', r'⟩; have I7 := Lib.hid i'; have R7 := Lib.hid (E.rt _ _ _ RK.out r'); clear i' r')
        clear hl
        have hl := E.less dk w7 (c + 1) r I7.out (by rw [SK.out]; (have hc := HC.out; omega)) (by rw [SK.out]; (have hc := HC.out; omega))
        rw [show ((c + 1 : Nat) : Int) = (c : Int) + 1 by omega] at hl
        cases hv : lt dk[c + 1]! dk[r]! with
        | false =>
          rw [hv] at hl
          go_wp2_with (go_at_fn fw; refine hl.mono ?_; rintro e w9 ⟨rfl, i', r'⟩; have I9 := Lib.hid i'; have R9 := Lib.hid (E.rt _ _ _ R7.out r'); clear i' r')
          go_ret
          exact ⟨_, rfl, dk, PK.out, DK.out.stop hS hv SB.out, SK.out, by rw [LK.out], I9.out, R9.out⟩
        | true =>
          rw [hv] at hl
          go_upto_region 9 with (go_at_fn fw; refine hl.mono ?_; rintro e w9 ⟨rfl, i', r'⟩; have I9 := Lib.hid i'; have R9 := Lib.hid (E.rt _ _ _ R7.out r'); clear i' r')
          have hs := E.swap dk w9 r (c + 1) I9.out (by rw [SK.out]; (have hc := HC.out; omega)) (by rw [SK.out]; (have hc := HC.out; omega))
          rw [show ((c + 1 : Nat) : Int) = (c : Int) + 1 by omega] at hs
          go_wp2_with (go_at_fn fs; refine hs.mono ?_; rintro e w8 ⟨rfl, i', r'⟩; have I8 := Lib.hid i'; have R8 := Lib.hid (E.rt _ _ _ R9.out r'); clear i' r')
          go_roundw
          case rel =>
            refine ⟨c + 1, _, by congr 1 <;> (have hc := HC.out; omega), by omega, by rw [size_swp]; exact SK.out, I8.out, R8.out, ?_, ?_, ?_⟩
            · exact DK.out.step hS (by rw [SK.out]; (have hc := HC.out; omega)) (by (have hc := HC.out; omega)) (by (have hc := HC.out; omega)) (by (have hc := HC.out; omega)) hv SB.out
            · exact (swp_perm dk (by rw [SK.out]; (have hc := HC.out; omega)) (by rw [SK.out]; (have hc := HC.out; omega))).trans PK.out
            · rw [Go.Sort.swp_other _ _ _ _ (by (have hc := HC.out; omega)) (by (have hc := HC.out; omega))]; exact LK.out
          case measure => simp [intOf]; have hc := HC.out; omega
      | false =>
        rw [hv1] at hl
        have SB : Hid (∀ k, 0 < k → k < n → (k - 1) / 2 = r → lt dk[k]! dk[c]! = false) := fun k k0 k1 k2 => by
          have hc := HC.out
          rcases (show k = c ∨ k = c + 1 by omega) with rfl | rfl
          · exact hS.irrefl _
          · exact hv1
        go_upto_region 8 with (go_at_fn fw; refine hl.mono ?_; rintro e w7 ⟨rfl, i', r'⟩; have I7 := Lib.hid i'; have R7 := Lib.hid (E.rt _ _ _ RK.out r'); clear i' r')
        clear hl
        have hl := E.less dk w7 (c) r I7.out (by rw [SK.out]; (have hc := HC.out; omega)) (by rw [SK.out]; (have hc := HC.out; omega))
        cases hv : lt dk[c]! dk[r]! with
        | false =>
          rw [hv] at hl
          go_wp2_with (go_at_fn fw; refine hl.mono ?_; rintro e w9 ⟨rfl, i', r'⟩; have I9 := Lib.hid i'; have R9 := Lib.hid (E.rt _ _ _ R7.out r'); clear i' r')
          go_ret
          exact ⟨_, rfl, dk, PK.out, DK.out.stop hS hv SB.out, SK.out, by rw [LK.out], I9.out, R9.out⟩
        | true =>
          rw [hv] at hl
          go_upto_region 9 with (go_at_fn fw; refine hl.mono ?_; rintro e w9 ⟨rfl, i', r'⟩; have I9 := Lib.hid i'; have R9 := Lib.hid (E.rt _ _ _ R7.out r'); clear i' r')
          have hs := E.swap dk w9 r (c) I9.out (by rw [SK.out]; (have hc := HC.out; omega)) (by rw [SK.out]; (have hc := HC.out; omega))
          go_wp2_with (go_at_fn fs; refine hs.mono ?_; rintro e w8 ⟨rfl, i', r'⟩; have I8 := Lib.hid i'; have R8 := Lib.hid (E.rt _ _ _ R9.out r'); clear i' r')
          go_roundw
          case rel =>
            refine ⟨c, _, by congr 1 <;> (have hc := HC.out; omega), by omega, by rw [size_swp]; exact SK.out, I8.out, R8.out, ?_, ?_, ?_⟩
            · exact DK.out.step hS (by rw [SK.out]; (have hc := HC.out; omega)) (by (have hc := HC.out; omega)) (by (have hc := HC.out; omega)) (by (have hc := HC.out; omega)) hv SB.out
            · exact (swp_perm dk (by rw [SK.out]; (have hc := HC.out; omega)) (by rw [SK.out]; (have hc := HC.out; omega))).trans PK.out
            · rw [Go.Sort.swp_other _ _ _ _ (by (have hc := HC.out; omega)) (by (have hc := HC.out; omega))]; exact LK.out
          case measure => simp [intOf]; have hc := HC.out; omega
    · have q1 : ¬ ((c : Int) + 1 < (n : Int)) := by omega
      have SB : Hid (∀ k, 0 < k → k < n → (k - 1) / 2 = r → lt dk[k]! dk[c]! = false) := fun k k0 k1 k2 => by
        have hc := HC.out
        rw [show k = c by omega]
        exact hS.irrefl _
      go_upto_region 8 with fail
      have hl := E.less dk wr (c) r IK.out (by rw [SK.out]; (have hc := HC.out; omega)) (by rw [SK.out]; (have hc := HC.out; omega))
      cases hv : lt dk[c]! dk[r]! with
      | false =>
        rw [hv] at hl
        go_wp2_with (go_at_fn fw; refine hl.mono ?_; rintro e w9 ⟨rfl, i', r'⟩; have I9 := Lib.hid i'; have R9 := Lib.hid (E.rt _ _ _ RK.out r'); clear i' r')
        go_ret
        exact ⟨_, rfl, dk, PK.out, DK.out.stop hS hv SB.out, SK.out, by rw [LK.out], I9.out, R9.out⟩
      | true =>
        rw [hv] at hl
        go_upto_region 9 with (go_at_fn fw; refine hl.mono ?_; rintro e w9 ⟨rfl, i', r'⟩; have I9 := Lib.hid i'; have R9 := Lib.hid (E.rt _ _ _ RK.out r'); clear i' r')
        have hs := E.swap dk w9 r (c) I9.out (by rw [SK.out]; (have hc := HC.out; omega)) (by rw [SK.out]; (have hc := HC.out; omega))
        go_wp2_with (go_at_fn fs; refine hs.mono ?_; rintro e w8 ⟨rfl, i', r'⟩; have I8 := Lib.hid i'; have R8 := Lib.hid (E.rt _ _ _ R9.out r'); clear i' r')
        go_roundw
        case rel =>
          refine ⟨c, _, by congr 1 <;> (have hc := HC.out; omega), by omega, by rw [size_swp]; exact SK.out, I8.out, R8.out, ?_, ?_, ?_⟩
          · exact DK.out.step hS (by rw [SK.out]; (have hc := HC.out; omega)) (by (have hc := HC.out; omega)) (by (have hc := HC.out; omega)) (by (have hc := HC.out; omega)) hv SB.out
          · exact (swp_perm dk (by rw [SK.out]; (have hc := HC.out; omega)) (by rw [SK.out]; (have hc := HC.out; omega))).trans PK.out
          · rw [Go.Sort.swp_other _ _ _ _ (by (have hc := HC.out; omega)) (by (have hc := HC.out; omega))]; exact LK.out
        case measure => simp [intOf]; have hc := HC.out; omega
set_option maxHeartbeats 4000000 in
set_option maxRecDepth 100000 in
theorem hp_push {α : Type} [Inhabited α] {lt : α → α → Bool} {ty : TypeId} {rv : Value} {enc : α → Value} {ok : α → Prop} {fl fw fs fu fo : Nat} (E : HpE α lt ty rv enc ok fl fw fs fu fo) (hS : SWO lt) (w : World) (d : Array α) (x : α) (hI : E.I d w) (hH : HeapP lt d.size d) (hx : ok x) (hz : d.size < 1048576) :
    Calls Tryz.prog 60 #[(.iface ty rv), enc x] w fun e w' => e = .returned (.tuple #[]) ∧ ∃ d' : Array α, d'.toList.Perm (x :: d.toList) ∧ d'.size = d.size + 1 ∧ HeapP lt d'.size d' ∧ E.I d' w' ∧ E.R w w' := by
  have mu := E.mu
  have ml := E.ml
  have eu := E.eu
  have el := E.el
  obtain ⟨n, hn⟩ : ∃ n, n = d.size := ⟨_, rfl⟩
  have hp := E.push d w x hI hx hz
  have NS : Hid ((d.push x).size = n + 1) := by show _ = _; rw [Array.size_push, hn]
  have UI := Lib.hid (UpI.start (x := x) (by rw [← hn] at hH; exact hH) hn)
  have PM : Hid ((d.push x).toList.Perm (x :: d.toList)) := by
    show List.Perm _ _
    rw [Array.toList_push]
    exact List.perm_append_comm
  have zle : n < 1048576 := by omega
  obtain ⟨d1, hd1⟩ : ∃ d1, d1 = d.push x := ⟨_, rfl⟩
  rw [← hd1] at hp NS UI PM
  obtain ⟨xv, hxv⟩ : ∃ xv, xv = enc x := ⟨_, rfl⟩
  rw [← hxv] at hp ⊢
  have HN := Lib.hid hn
  clear hI hH hz hx hn hd1 hxv
  go_enter Tryz.func60, Tryz.ntmps60
  go_upto_region 1 with (go_at_fn fu; refine hp.mono ?_; rintro e w1 ⟨rfl, i', r'⟩; have I1 := Lib.hid i'; have R1 := Lib.hid (E.rt _ _ _ (Lib.hid (E.rr w)).out r'); clear i' r')
  clear hp
  have hl := E.len _ w1 I1.out
  rw [NS.out, show ((n + 1 : Nat) : Int) = (n : Int) + 1 by omega] at hl
  go_wp2_with (go_at_fn fl; refine hl.mono ?_; rintro e w2 ⟨rfl, i', r'⟩; have I2 := Lib.hid i'; have R2 := Lib.hid (E.rt _ _ _ R1.out r'); clear i' r')
  refine (hp_up E hS w2 _ (n + 1) n I2.out NS.out (Nat.lt_succ_self _) UI.out).mono ?_
  rintro e w3 ⟨rfl, d', p, h, s, i, r⟩
  have PP := Lib.hid p
  have HH := Lib.hid h
  have SS := Lib.hid s
  have II := Lib.hid i
  have RR := Lib.hid (E.rt _ _ _ R2.out r)
  clear p h s i r hl
  go_wp2_with fail
  go_end0
  exact ⟨rfl, d', PP.out.trans PM.out, by rw [SS.out, HN.out], by rw [SS.out]; exact HH.out, II.out, RR.out⟩
set_option maxHeartbeats 4000000 in
set_option maxRecDepth 100000 in
theorem hp_pop {α : Type} [Inhabited α] {lt : α → α → Bool} {ty : TypeId} {rv : Value} {enc : α → Value} {ok : α → Prop} {fl fw fs fu fo : Nat} (E : HpE α lt ty rv enc ok fl fw fs fu fo) (hS : SWO lt) (w : World) (d : Array α) (n : Nat) (hI : E.I d w) (hn : d.size = n + 1) (hH : HeapP lt d.size d) :
    Calls Tryz.prog 41 #[(.iface ty rv)] w fun e w' => e = .returned (enc d[0]!) ∧ ∃ d' : Array α, d.toList.Perm (d[0]! :: d'.toList) ∧ d'.size = n ∧ HeapP lt d'.size d' ∧ E.I d' w' ∧ E.R w w' := by
  have ml := E.ml
  have ms := E.ms
  have mo := E.mo
  have el := E.el
  have es := E.es
  have eo := E.eo
  have LE := Lib.hid (E.le _ _ hI)
  have nle : n ≤ 1048576 := by have := LE.out; omega
  have hl := E.len _ w hI
  rw [hn, show ((n + 1 : Nat) : Int) = (n : Int) + 1 by omega] at hl
  have hsw : ∀ W, E.I d W → Calls Tryz.prog fs #[rv, .int .i64 0, .int .i64 (n : Int)] W fun e w' => e = .returned (.tuple #[]) ∧ E.I (swp d 0 n) w' ∧ E.R W w' := fun W h => E.swap d W 0 n h (by omega) (by omega)
  have HSW := Lib.hid hsw
  have hdn : ∀ W, E.I (swp d 0 n) W → Calls Tryz.prog 61 #[(.iface ty rv), .int .i64 0, .int .i64 (n : Int)] W (HpDn E W (swp d 0 n) n) := fun W h => hp_down E hS W _ n h (by rw [size_swp]; exact hn) (DnI.start (by rw [← hn]; exact hH) (by omega))
  have HDN := Lib.hid hdn
  have PS : Hid ((swp d 0 n).toList.Perm d.toList) := swp_perm d (by omega) (by omega)
  have LT : Hid ((swp d 0 n)[n]! = d[0]!) := by
    show _ = _
    rw [Go.Sort.swp_get d (by omega) (by omega)]
    by_cases e : n = 0
    · subst e; simp
    · simp [e]
  clear hsw hdn hI hH hn
  go_enter Tryz.func41, Tryz.ntmps41
  go_upto_region 2 with (go_at_fn fl; refine hl.mono ?_; rintro e w1 ⟨rfl, i', r'⟩; have I1 := Lib.hid i'; have R1 := Lib.hid (E.rt _ _ _ (Lib.hid (E.rr w)).out r'); clear i' r')
  have hs := HSW.out w1 I1.out
  clear hl
  go_upto_region 3 with (go_at_fn fs; refine hs.mono ?_; rintro e w2 ⟨rfl, i', r'⟩; have I2 := Lib.hid i'; have R2 := Lib.hid (E.rt _ _ _ R1.out r'); clear i' r')
  clear hs
  go_wp2_with fail
  refine (HDN.out w2 I2.out).mono ?_
  rintro e w3 ⟨b, rfl, d', p, h, s, l, i, r⟩
  have PP := Lib.hid p
  have HH := Lib.hid h
  have SS := Lib.hid s
  have LL := Lib.hid l
  have R3 := Lib.hid (E.rt _ _ _ R2.out r)
  have ho := E.pop d' w3 n i s
  clear p h s l i r
  go_wp2_with (go_at_fn fo; refine ho.mono ?_; rintro e w4 ⟨rfl, i', r'⟩; have I4 := Lib.hid i'; have R4 := Lib.hid (E.rt _ _ _ R3.out r'); clear i' r')
  go_ret
  refine ⟨by rw [LL.out, LT.out]; rfl, d'.pop, ?_, by rw [Array.size_pop, SS.out]; rfl, ?_, I4.out, R4.out⟩
  · have h := pop_perm SS.out
    rw [LL.out, LT.out] at h
    exact (PS.out.symm.trans PP.out.symm).trans h
  · rw [show d'.pop.size = n by rw [Array.size_pop, SS.out]; rfl]
    exact HH.out.pop (by rw [SS.out]; omega)
end Go.Proofs.YtdhcjaflbfpalaaGreatDoor.Sha
