/-
  Texts of this proof joined into one file: CtGet, BlRefIds, MkPair, MkRowRef, MkRootRef. What each holds, and under which conditions, its own first sentence tells.
-/
import Derived.IntWalk
import Derived.Test.YtnhmjlljnckieaaDoorMg13
import Derived.Test.YtnhmjlljnckieaaDoorMg06
import Derived.Test.YtnhmjlljnckieaaDoorMg14
import Derived.Test.YtnhmjlljnckieaaDoorMg05
import Derived.Test.YtnhmjlljnckieaaDoorMg10
import Derived.Test.YtnhmjlljnckieaaDoorMg12
/-
  The program's tree tells: the start, how many there are, a block's height, work, header, its ancestor of a height. Nothing that was there turns. Conditions: the tree lies where it should, nodes as the model has them.
-/
namespace Go.Proofs.YtnhmjlljnckieaaDoor.Sha
open Go Go.RowKit
theorem TrL.start {L : List TNd} (h : TrL L) : (L.getD 0 ndZ).id.length = 32 ∧ L[0]? = some (L.getD 0 ndZ) := by
  obtain ⟨x, hx⟩ : ∃ x, L[0]? = some x := ⟨_, List.getElem?_eq_getElem h.pos⟩
  rw [getD_at hx]
  exact ⟨(h.ok x (List.mem_of_getElem? hx)).1, hx⟩
/-- What the map tells of an id. -/
theorem ct_look {w : World} {base b mb : Nat} {M : List CNd} (h : CtAt w base b mb M) (ht : TrL (ndM M)) (id : List UInt8) (hid : id.length = 32) :
    ∃ (vo : Value) (bo : Bool), (∀ W, Below w.heap.size w W → (Instr.lookup 65 (.map (some mb)) (.agg (id.map bV).toArray) true).run Tryd.prog W = .ok (.tuple #[vo, .bool bo]) W) ∧
      ((findT (ndM M) id = -1 ∧ vo = .pointer none ∧ bo = false) ∨ ∃ (k : Nat) (c : CNd), findT (ndM M) id = (k : Int) ∧ M[k]? = some c ∧ c.nd.id = id ∧ vo = .pointer (some ⟨c.ad, 0, none⟩) ∧ bo = true) := by
  have hl : ∀ W, Below w.heap.size w W → (Instr.lookup 65 (.map (some mb)) (hK id) true).run Tryd.prog W = .ok (.tuple #[nptr ((getG (idsM M) id).getD none), .bool (getG (idsM M) id).isSome]) W := fun W hW => gm_look mty_nodes (h.below hW).mp id hid
  rcases look_ids ht.ids id with ⟨h1, h2⟩ | ⟨k, c, h1, h2, h3, h4⟩
  · rw [h2] at hl
    exact ⟨_, _, hl, .inl ⟨h1, rfl, rfl⟩⟩
  · rw [h4] at hl
    exact ⟨_, _, hl, .inr ⟨k, c, h1, h2, h3, rfl, rfl⟩⟩
set_option maxRecDepth 100000 in
theorem ctlen_any (w : World) (base b mb : Nat) (M : List CNd) (h : CtAt w base b mb M) (ht : TrL (ndM M)) :
    Calls Tryd.prog 20 #[(.pointer (some ⟨b, 0, none⟩))] w fun e w' => e = .returned (.int .i64 ((ndM M).length : Int)) ∧ w = w' := by
  have c32 := h.mcell ht.start.1
  have hq := fun ty => gm_len mty_nodes h.mp ty
  have EL : Hid ((idsM M).length = (ndM M).length) := by show _ = _; unfold idsM ndM; rw [List.length_map, List.length_map]
  clear h ht
  go_enter Tryd.func20, Tryd.ntmps20
  go_wp2_with fail
  go_ret
  exact ⟨by rw [EL.out]; rfl, rfl⟩
set_option maxHeartbeats 1000000 in
set_option maxRecDepth 100000 in
theorem ctheight_any (w : World) (base b mb : Nat) (M : List CNd) (id : List UInt8) (h : CtAt w base b mb M) (ht : TrL (ndM M)) (hid : id.length = 32) :
    Calls Tryd.prog 17 #[(.pointer (some ⟨b, 0, none⟩)), .agg (id.map bV).toArray] w fun e w' => e = .returned (.tuple #[.int .i64 (ofT (ndM M) id).2.1, .bool (ofT (ndM M) id).2.2.2]) ∧ Below w.heap.size w w' := by
  have HT := Lib.hid h
  have TR := Lib.hid ht
  have LS := Lib.hid ht.start.1
  obtain ⟨vo, bo, hlk, hca⟩ := ct_look h ht id hid
  have LK := Lib.hid hlk
  have CA := Lib.hid hca
  have SC : Hid ((id.map bV).length = 32) := by show _ = _; rw [List.length_map]; exact hid
  obtain ⟨ci, hci⟩ : ∃ ci, ci = id.map bV := ⟨_, rfl⟩
  rw [← hci] at LK SC ⊢
  clear h ht hlk hca hid hci
  go_enter Tryd.func17, Tryd.ntmps17
  go_upto_region 1 with fail
  have f0 := heap_alloc_new w (.cells ci.toArray 30 (0, 0))
  have bb : Below w.heap.size w (w.alloc (.cells ci.toArray 30 (0, 0))) := ((Below.refl w.heap.size w).alloc (by first | exact Nat.le_refl _ | (simp only [World.size_alloc]; omega)) (.cells ci.toArray 30 (0, 0)))
  generalize hq : World.alloc _ _ = w1
  have eq : w.alloc (.cells ci.toArray 30 (0, 0)) = w1 := hq
  rw [eq] at f0 bb
  obtain ⟨g3, hg3⟩ : ∃ g3, g3 = w.heap.size := ⟨_, rfl⟩
  have Gg3 : Hid (w.heap.size ≤ g3) := by show _ ≤ _; omega
  rw [← hg3] at f0 ⊢
  have F3 := Lib.hid f0
  have B1 := Lib.hid bb
  clear f0 bb hq eq hg3
  refine wp_region_held_drew (S := (fun w' => Below w1.heap.size w1 w')) (by kernel_rfl) (Below.drew (Below.refl _ _)) (fun hHeld => ?_)
  generalize hwd : w1.drew = wd at  hHeld ⊢
  clear hwd
  refine held_take (i := 0) (v := (.pointer (some ⟨b, 0, none⟩))) rfl (by kernel_rfl) (by kernel_rfl) (by kernel_rfl) (fun _ _ _ h => h) (Or.inl ⟨by rfl, fun w' _ => by kernel_rfl⟩) hHeld ?_
  go_frame
  refine held_take (i := 1) (v := (.pointer (some ⟨b, 0, none⟩))) rfl (by kernel_rfl) (by kernel_rfl) (by kernel_rfl) (fun _ _ _ h => h) (Or.inl ⟨by rfl, fun w' _ => by kernel_rfl⟩) hHeld ?_
  go_frame
  refine held_take (i := 2) (v := (.pointer (some ⟨b, 32, none⟩))) rfl (by kernel_rfl) (by kernel_rfl) (by kernel_rfl) (fun _ _ _ h => h) (Or.inl ⟨by rfl, fun w' _ => by kernel_rfl⟩) hHeld ?_
  go_frame
  refine held_take (i := 3) (v := (.map (some mb))) rfl (by kernel_rfl) (by kernel_rfl) (by kernel_rfl) (fun _ _ _ h => h) (yieldsIf_load_one (by rfl) 65 (.tmp 11) rfl b (32) rfl _ _ (fun w' hw' => (HT.out.below (B1.out.trans (hw'.mono B1.out.size))).mcell LS.out) Tryd.underlying65 rfl) hHeld ?_
  go_frame
  refine held_take (i := 4) (v := (.agg ci.toArray)) rfl (by kernel_rfl) (by kernel_rfl) (by kernel_rfl) (fun _ _ _ h => h) (yieldsIf_load_row (by rfl) 30 (.tmp 3) rfl g3 rfl 30 ci.toArray (0, 0) _ (fun w' hw' => row_below F3.out hw') Tryd.underlying30 rfl (by show _ = some ci.length; rw [SC.out]; kernel_rfl)) hHeld ?_
  go_frame
  refine held_take (i := 5) (v := (.tuple #[vo, .bool bo])) rfl (by kernel_rfl) (by kernel_rfl) (by kernel_rfl) (fun _ _ _ h => h) (yieldsIf_lookup (by rfl) 65 (.tmp 12) (.tmp 13) true rfl _ _ _ rfl rfl (fun w' hw' => LK.out w' (B1.out.trans (hw'.mono B1.out.size)))) hHeld ?_
  go_frame
  refine held_take (i := 6) (v := (.tuple #[vo, .bool bo])) rfl (by kernel_rfl) (by kernel_rfl) (by kernel_rfl) (fun _ _ _ h => h) (Or.inl ⟨by rfl, fun w' _ => by kernel_rfl⟩) hHeld ?_
  go_frame
  refine held_take (i := 7) (v := vo) rfl (by kernel_rfl) (by kernel_rfl) (by kernel_rfl) (fun _ _ _ h => h) (Or.inl ⟨by rfl, fun w' _ => by kernel_rfl⟩) hHeld ?_
  go_frame
  refine held_take (i := 8) (v := (.bool bo)) rfl (by kernel_rfl) (by kernel_rfl) (by kernel_rfl) (fun _ _ _ h => h) (Or.inl ⟨by rfl, fun w' _ => by kernel_rfl⟩) hHeld ?_
  go_frame
  refine held_take (i := 9) (v := vo) rfl (by kernel_rfl) (by kernel_rfl) (by kernel_rfl) (fun _ _ _ h => h) (Or.inl ⟨by rfl, fun w' _ => by kernel_rfl⟩) hHeld ?_
  go_frame
  refine held_take (i := 10) (v := (.bool bo)) rfl (by kernel_rfl) (by kernel_rfl) (by kernel_rfl) (fun _ _ _ h => h) (Or.inl ⟨by rfl, fun w' _ => by kernel_rfl⟩) hHeld ?_
  go_frame
  refine wpAnyH_done (by kernel_rfl) ?_ _
  obtain ⟨v9, hv9⟩ : ∃ v9, v9 = wd := ⟨_, rfl⟩
  rw [← hv9] at  hHeld ⊢
  clear hv9
  have B2 := Lib.hid (B1.out.trans (hHeld.mono B1.out.size))
  clear hHeld LK F3 B1
  rcases CA.out with ⟨h1, rfl, rfl⟩ | ⟨k, c, h1, h2, h3, rfl, rfl⟩
  · have AE : Hid (ofT (ndM M) id = (ndZ.h, 0, 0, false)) := by show _ = _; unfold ofT; rw [h1]; rfl
    clear h1
    go_wp2_with fail
    go_ret2
    exact ⟨by rw [AE.out]; rfl, B2.out⟩
  · have AE : Hid (ofT (ndM M) id = (c.nd.h, c.nd.height, c.nd.work, true)) := by show _ = _; unfold ofT; rw [h1, if_neg (by omega), getD_int (ndM_at h2)]
    have cc := (HT.out.cells TR.out h2 B2.out).1
    clear h1 h2 h3
    go_wp2_with fail
    go_ret2
    exact ⟨by rw [AE.out]; rfl, B2.out⟩
set_option maxHeartbeats 1000000 in
set_option maxRecDepth 100000 in
theorem ctwork_any (w : World) (base b mb : Nat) (M : List CNd) (id : List UInt8) (h : CtAt w base b mb M) (ht : TrL (ndM M)) (hid : id.length = 32) :
    Calls Tryd.prog 18 #[(.pointer (some ⟨b, 0, none⟩)), .agg (id.map bV).toArray] w fun e w' => e = .returned (.tuple #[.int .u64 ((ofT (ndM M) id).2.2.1 : Int), .bool (ofT (ndM M) id).2.2.2]) ∧ Below w.heap.size w w' := by
  have HT := Lib.hid h
  have TR := Lib.hid ht
  have LS := Lib.hid ht.start.1
  obtain ⟨vo, bo, hlk, hca⟩ := ct_look h ht id hid
  have LK := Lib.hid hlk
  have CA := Lib.hid hca
  have SC : Hid ((id.map bV).length = 32) := by show _ = _; rw [List.length_map]; exact hid
  obtain ⟨ci, hci⟩ : ∃ ci, ci = id.map bV := ⟨_, rfl⟩
  rw [← hci] at LK SC ⊢
  clear h ht hlk hca hid hci
  go_enter Tryd.func18, Tryd.ntmps18
  go_upto_region 1 with fail
  have f0 := heap_alloc_new w (.cells ci.toArray 30 (0, 0))
  have bb : Below w.heap.size w (w.alloc (.cells ci.toArray 30 (0, 0))) := ((Below.refl w.heap.size w).alloc (by first | exact Nat.le_refl _ | (simp only [World.size_alloc]; omega)) (.cells ci.toArray 30 (0, 0)))
  generalize hq : World.alloc _ _ = w1
  have eq : w.alloc (.cells ci.toArray 30 (0, 0)) = w1 := hq
  rw [eq] at f0 bb
  obtain ⟨g3, hg3⟩ : ∃ g3, g3 = w.heap.size := ⟨_, rfl⟩
  have Gg3 : Hid (w.heap.size ≤ g3) := by show _ ≤ _; omega
  rw [← hg3] at f0 ⊢
  have F3 := Lib.hid f0
  have B1 := Lib.hid bb
  clear f0 bb hq eq hg3
  refine wp_region_held_drew (S := (fun w' => Below w1.heap.size w1 w')) (by kernel_rfl) (Below.drew (Below.refl _ _)) (fun hHeld => ?_)
  generalize hwd : w1.drew = wd at  hHeld ⊢
  clear hwd
  refine held_take (i := 0) (v := (.pointer (some ⟨b, 0, none⟩))) rfl (by kernel_rfl) (by kernel_rfl) (by kernel_rfl) (fun _ _ _ h => h) (Or.inl ⟨by rfl, fun w' _ => by kernel_rfl⟩) hHeld ?_
  go_frame
  refine held_take (i := 1) (v := (.pointer (some ⟨b, 0, none⟩))) rfl (by kernel_rfl) (by kernel_rfl) (by kernel_rfl) (fun _ _ _ h => h) (Or.inl ⟨by rfl, fun w' _ => by kernel_rfl⟩) hHeld ?_
  go_frame
  refine held_take (i := 2) (v := (.pointer (some ⟨b, 32, none⟩))) rfl (by kernel_rfl) (by kernel_rfl) (by kernel_rfl) (fun _ _ _ h => h) (Or.inl ⟨by rfl, fun w' _ => by kernel_rfl⟩) hHeld ?_
  go_frame
  refine held_take (i := 3) (v := (.map (some mb))) rfl (by kernel_rfl) (by kernel_rfl) (by kernel_rfl) (fun _ _ _ h => h) (yieldsIf_load_one (by rfl) 65 (.tmp 11) rfl b (32) rfl _ _ (fun w' hw' => (HT.out.below (B1.out.trans (hw'.mono B1.out.size))).mcell LS.out) Tryd.underlying65 rfl) hHeld ?_
  go_frame
  refine held_take (i := 4) (v := (.agg ci.toArray)) rfl (by kernel_rfl) (by kernel_rfl) (by kernel_rfl) (fun _ _ _ h => h) (yieldsIf_load_row (by rfl) 30 (.tmp 3) rfl g3 rfl 30 ci.toArray (0, 0) _ (fun w' hw' => row_below F3.out hw') Tryd.underlying30 rfl (by show _ = some ci.length; rw [SC.out]; kernel_rfl)) hHeld ?_
  go_frame
  refine held_take (i := 5) (v := (.tuple #[vo, .bool bo])) rfl (by kernel_rfl) (by kernel_rfl) (by kernel_rfl) (fun _ _ _ h => h) (yieldsIf_lookup (by rfl) 65 (.tmp 12) (.tmp 13) true rfl _ _ _ rfl rfl (fun w' hw' => LK.out w' (B1.out.trans (hw'.mono B1.out.size)))) hHeld ?_
  go_frame
  refine held_take (i := 6) (v := (.tuple #[vo, .bool bo])) rfl (by kernel_rfl) (by kernel_rfl) (by kernel_rfl) (fun _ _ _ h => h) (Or.inl ⟨by rfl, fun w' _ => by kernel_rfl⟩) hHeld ?_
  go_frame
  refine held_take (i := 7) (v := vo) rfl (by kernel_rfl) (by kernel_rfl) (by kernel_rfl) (fun _ _ _ h => h) (Or.inl ⟨by rfl, fun w' _ => by kernel_rfl⟩) hHeld ?_
  go_frame
  refine held_take (i := 8) (v := (.bool bo)) rfl (by kernel_rfl) (by kernel_rfl) (by kernel_rfl) (fun _ _ _ h => h) (Or.inl ⟨by rfl, fun w' _ => by kernel_rfl⟩) hHeld ?_
  go_frame
  refine held_take (i := 9) (v := vo) rfl (by kernel_rfl) (by kernel_rfl) (by kernel_rfl) (fun _ _ _ h => h) (Or.inl ⟨by rfl, fun w' _ => by kernel_rfl⟩) hHeld ?_
  go_frame
  refine held_take (i := 10) (v := (.bool bo)) rfl (by kernel_rfl) (by kernel_rfl) (by kernel_rfl) (fun _ _ _ h => h) (Or.inl ⟨by rfl, fun w' _ => by kernel_rfl⟩) hHeld ?_
  go_frame
  refine wpAnyH_done (by kernel_rfl) ?_ _
  obtain ⟨v9, hv9⟩ : ∃ v9, v9 = wd := ⟨_, rfl⟩
  rw [← hv9] at  hHeld ⊢
  clear hv9
  have B2 := Lib.hid (B1.out.trans (hHeld.mono B1.out.size))
  clear hHeld LK F3 B1
  rcases CA.out with ⟨h1, rfl, rfl⟩ | ⟨k, c, h1, h2, h3, rfl, rfl⟩
  · have AE : Hid (ofT (ndM M) id = (ndZ.h, 0, 0, false)) := by show _ = _; unfold ofT; rw [h1]; rfl
    clear h1
    go_wp2_with fail
    go_ret2
    exact ⟨by rw [AE.out]; rfl, B2.out⟩
  · have AE : Hid (ofT (ndM M) id = (c.nd.h, c.nd.height, c.nd.work, true)) := by show _ = _; unfold ofT; rw [h1, if_neg (by omega), getD_int (ndM_at h2)]
    have cc := (HT.out.cells TR.out h2 B2.out).2.1
    clear h1 h2 h3
    go_wp2_with fail
    go_ret2
    exact ⟨by rw [AE.out]; rfl, B2.out⟩
set_option maxHeartbeats 1000000 in
set_option maxRecDepth 100000 in
theorem cthead_any (w : World) (base b mb : Nat) (M : List CNd) (id : List UInt8) (h : CtAt w base b mb M) (ht : TrL (ndM M)) (hid : id.length = 32) :
    Calls Tryd.prog 13 #[(.pointer (some ⟨b, 0, none⟩)), .agg (id.map bV).toArray] w fun e w' => e = .returned (.tuple #[.agg (hdL (ofT (ndM M) id).1).toArray, .bool (ofT (ndM M) id).2.2.2]) ∧ Below w.heap.size w w' := by
  have HT := Lib.hid h
  have TR := Lib.hid ht
  have LS := Lib.hid ht.start.1
  obtain ⟨vo, bo, hlk, hca⟩ := ct_look h ht id hid
  have LK := Lib.hid hlk
  have CA := Lib.hid hca
  have SC : Hid ((id.map bV).length = 32) := by show _ = _; rw [List.length_map]; exact hid
  obtain ⟨ci, hci⟩ : ∃ ci, ci = id.map bV := ⟨_, rfl⟩
  rw [← hci] at LK SC ⊢
  clear h ht hlk hca hid hci
  have LZ : Hid ((hdL ndZ.h).length = 68) := rfl
  go_enter Tryd.func13, Tryd.ntmps13
  go_upto_region 1 with fail
  have f0 := row_below (heap_alloc_new w (.cells ci.toArray 30 (0, 0))) ((Below.refl _ _).alloc (Nat.le_refl _) (.cells (hdL ndZ.h).toArray 32 (0, 0)))
  have f1 := heap_alloc_new (w.alloc (.cells ci.toArray 30 (0, 0))) (.cells (hdL ndZ.h).toArray 32 (0, 0))
  have bb : Below w.heap.size w ((w.alloc (.cells ci.toArray 30 (0, 0))).alloc (.cells (hdL ndZ.h).toArray 32 (0, 0))) := (((Below.refl w.heap.size w).alloc (by first | exact Nat.le_refl _ | (simp only [World.size_alloc]; omega)) (.cells ci.toArray 30 (0, 0))).alloc (by first | exact Nat.le_refl _ | (simp only [World.size_alloc]; omega)) (.cells (hdL ndZ.h).toArray 32 (0, 0)))
  simp only [World.size_alloc] at f1
  generalize hq : World.alloc _ _ = w1
  have eq : (w.alloc (.cells ci.toArray 30 (0, 0))).alloc (.cells (hdL ndZ.h).toArray 32 (0, 0)) = w1 := hq
  rw [eq] at f0 f1 bb
  obtain ⟨g4, hg4⟩ : ∃ g4, g4 = w.heap.size + 1 := ⟨_, rfl⟩
  have Gg4 : Hid (w.heap.size ≤ g4) := by show _ ≤ _; omega
  rw [← hg4] at f1 ⊢
  obtain ⟨g3, hg3⟩ : ∃ g3, g3 = w.heap.size := ⟨_, rfl⟩
  have Gg3 : Hid (w.heap.size ≤ g3) := by show _ ≤ _; omega
  rw [← hg3] at f0 ⊢
  have F3 := Lib.hid f0
  have F4 := Lib.hid f1
  have B1 := Lib.hid bb
  clear f0 f1 bb hq eq hg3 hg4
  refine wp_region_held_drew (S := (fun w' => Below w1.heap.size w1 w')) (by kernel_rfl) (Below.drew (Below.refl _ _)) (fun hHeld => ?_)
  generalize hwd : w1.drew = wd at  hHeld ⊢
  clear hwd
  refine held_take (i := 0) (v := (.pointer (some ⟨b, 0, none⟩))) rfl (by kernel_rfl) (by kernel_rfl) (by kernel_rfl) (fun _ _ _ h => h) (Or.inl ⟨by rfl, fun w' _ => by kernel_rfl⟩) hHeld ?_
  go_frame
  refine held_take (i := 1) (v := (.pointer (some ⟨b, 0, none⟩))) rfl (by kernel_rfl) (by kernel_rfl) (by kernel_rfl) (fun _ _ _ h => h) (Or.inl ⟨by rfl, fun w' _ => by kernel_rfl⟩) hHeld ?_
  go_frame
  refine held_take (i := 2) (v := (.pointer (some ⟨b, 32, none⟩))) rfl (by kernel_rfl) (by kernel_rfl) (by kernel_rfl) (fun _ _ _ h => h) (Or.inl ⟨by rfl, fun w' _ => by kernel_rfl⟩) hHeld ?_
  go_frame
  refine held_take (i := 3) (v := (.map (some mb))) rfl (by kernel_rfl) (by kernel_rfl) (by kernel_rfl) (fun _ _ _ h => h) (yieldsIf_load_one (by rfl) 65 (.tmp 11) rfl b (32) rfl _ _ (fun w' hw' => (HT.out.below (B1.out.trans (hw'.mono B1.out.size))).mcell LS.out) Tryd.underlying65 rfl) hHeld ?_
  go_frame
  refine held_take (i := 4) (v := (.agg ci.toArray)) rfl (by kernel_rfl) (by kernel_rfl) (by kernel_rfl) (fun _ _ _ h => h) (yieldsIf_load_row (by rfl) 30 (.tmp 3) rfl g3 rfl 30 ci.toArray (0, 0) _ (fun w' hw' => row_below F3.out hw') Tryd.underlying30 rfl (by show _ = some ci.length; rw [SC.out]; kernel_rfl)) hHeld ?_
  go_frame
  refine held_take (i := 5) (v := (.tuple #[vo, .bool bo])) rfl (by kernel_rfl) (by kernel_rfl) (by kernel_rfl) (fun _ _ _ h => h) (yieldsIf_lookup (by rfl) 65 (.tmp 12) (.tmp 13) true rfl _ _ _ rfl rfl (fun w' hw' => LK.out w' (B1.out.trans (hw'.mono B1.out.size)))) hHeld ?_
  go_frame
  refine held_take (i := 6) (v := (.tuple #[vo, .bool bo])) rfl (by kernel_rfl) (by kernel_rfl) (by kernel_rfl) (fun _ _ _ h => h) (Or.inl ⟨by rfl, fun w' _ => by kernel_rfl⟩) hHeld ?_
  go_frame
  refine held_take (i := 7) (v := vo) rfl (by kernel_rfl) (by kernel_rfl) (by kernel_rfl) (fun _ _ _ h => h) (Or.inl ⟨by rfl, fun w' _ => by kernel_rfl⟩) hHeld ?_
  go_frame
  refine held_take (i := 8) (v := (.bool bo)) rfl (by kernel_rfl) (by kernel_rfl) (by kernel_rfl) (fun _ _ _ h => h) (Or.inl ⟨by rfl, fun w' _ => by kernel_rfl⟩) hHeld ?_
  go_frame
  refine held_take (i := 9) (v := vo) rfl (by kernel_rfl) (by kernel_rfl) (by kernel_rfl) (fun _ _ _ h => h) (Or.inl ⟨by rfl, fun w' _ => by kernel_rfl⟩) hHeld ?_
  go_frame
  refine held_take (i := 10) (v := (.bool bo)) rfl (by kernel_rfl) (by kernel_rfl) (by kernel_rfl) (fun _ _ _ h => h) (Or.inl ⟨by rfl, fun w' _ => by kernel_rfl⟩) hHeld ?_
  go_frame
  refine wpAnyH_done (by kernel_rfl) ?_ _
  obtain ⟨v9, hv9⟩ : ∃ v9, v9 = wd := ⟨_, rfl⟩
  rw [← hv9] at  hHeld ⊢
  clear hv9
  have B2 := Lib.hid (B1.out.trans (hHeld.mono B1.out.size))
  have F4 := Lib.hid (row_below F4.out hHeld)
  clear hHeld LK F3 B1
  rcases CA.out with ⟨h1, rfl, rfl⟩ | ⟨k, c, h1, h2, h3, rfl, rfl⟩
  · have AE : Hid (ofT (ndM M) id = (ndZ.h, 0, 0, false)) := by show _ = _; unfold ofT; rw [h1]; rfl
    clear h1
    go_wp2_with ((with_reducible show wpList _ _ _ _ _ _); refine wpList_store_row rfl 32 (.tmp 4) (.tmp 19) rfl g4 Tryd.zeroCells32 rfl rfl 32 _ F4.out (by kernel_rfl) (by kernel_rfl) (by kernel_rfl) ?_; go_frame)
    refine bodyPost_ret (results_row_tmp rfl _ _ g4 32 Tryd.zeroCells32 (0, 0) _ rfl (setRow_heap _ _ _ _ _ _ F4.out) Tryd.underlying32 rfl (by kernel_rfl)) rfl ?_
    have ZH : Tryd.zeroCells32 = (hdL ndZ.h).toArray := by kernel_rfl
    rw [AE.out, ZH]
    exact ⟨rfl, below_setRow B2.out (by have := Gg4.out; omega) _⟩
  · have AE : Hid (ofT (ndM M) id = (c.nd.h, c.nd.height, c.nd.work, true)) := by show _ = _; unfold ofT; rw [h1, if_neg (by omega), getD_int (ndM_at h2)]
    have ok := TR.out.ok _ (List.mem_of_getElem? (ndM_at h2))
    have RH := Lib.hid (cn_head ((HT.out.below B2.out).node k c h2) ok.1)
    have LH : Hid ((hdL c.nd.h).length = 68) := hdL_length ok.2.1
    have LH' : Hid ((hdL c.nd.h).toArray.size = 68) := by show _ = _; rw [List.size_toArray]; exact LH.out
    have OH : Hid ((hdL c.nd.h).toArray.all (·.oneCell') = true) := all_oneCell_toArray (hdL_one' _)
    obtain ⟨ch, hch⟩ : ∃ ch, ch = hdL c.nd.h := ⟨_, rfl⟩
    have CHE := Lib.hid hch
    rw [← hch] at RH LH LH' OH
    clear h1 h2 h3 ok hch
    go_wp2_with ((with_reducible show wpList _ _ _ _ _ _); first | (refine wpList_load_mid rfl 32 (.tmp 22) rfl c.ad 32 rfl ch _ RH.out Tryd.underlying32 rfl (by rw [LH.out]; kernel_rfl) ?_; go_frame) | (refine wpList_store_row rfl 32 (.tmp 4) (.tmp 23) rfl g4 ch.toArray rfl rfl 32 _ F4.out (by rw [LH'.out]; kernel_rfl) (by rw [LH'.out]; rfl) OH.out ?_; go_frame))
    refine bodyPost_ret (results_row_tmp rfl _ _ g4 32 ch.toArray (0, 0) _ rfl (setRow_heap _ _ _ _ _ _ F4.out) Tryd.underlying32 rfl (by rw [LH'.out]; kernel_rfl)) rfl ?_
    rw [AE.out, CHE.out]
    exact ⟨rfl, below_setRow B2.out (by have := Gg4.out; omega) _⟩
set_option maxRecDepth 100000 in
theorem ctstart_any (w : World) (base b mb : Nat) (M : List CNd) (h : CtAt w base b mb M) (ht : TrL (ndM M)) :
    Calls Tryd.prog 16 #[(.pointer (some ⟨b, 0, none⟩))] w fun e w' => e = .returned (.agg (((ndM M).getD 0 ndZ).id.map bV).toArray) ∧ Below w.heap.size w w' := by
  have st := ht.start
  have R0 := Lib.hid h.start
  have LI : Hid ((((ndM M).getD 0 ndZ).id.map bV).length = 32) := by show _ = _; rw [List.length_map]; exact st.1
  have LI' : Hid ((((ndM M).getD 0 ndZ).id.map bV).toArray.size = 32) := by show _ = _; rw [List.size_toArray]; exact LI.out
  have OI : Hid ((((ndM M).getD 0 ndZ).id.map bV).toArray.all (·.oneCell') = true) := bV_one _
  obtain ⟨ci, hci⟩ : ∃ ci, ci = ((ndM M).getD 0 ndZ).id.map bV := ⟨_, rfl⟩
  rw [← hci] at R0 LI LI' OI ⊢
  clear h ht st hci
  go_enter Tryd.func16, Tryd.ntmps16
  go_upto_region 1 with fail
  have f0 := heap_alloc_new w (.cells (List.replicate 32 (bV 0)).toArray 30 (0, 0))
  have bb : Below w.heap.size w (w.alloc (.cells (List.replicate 32 (bV 0)).toArray 30 (0, 0))) := ((Below.refl w.heap.size w).alloc (by first | exact Nat.le_refl _ | (simp only [World.size_alloc]; omega)) (.cells (List.replicate 32 (bV 0)).toArray 30 (0, 0)))
  generalize hq : World.alloc _ _ = w1
  have eq : w.alloc (.cells (List.replicate 32 (bV 0)).toArray 30 (0, 0)) = w1 := hq
  rw [eq] at f0 bb
  obtain ⟨g2, hg2⟩ : ∃ g2, g2 = w.heap.size := ⟨_, rfl⟩
  have Gg2 : Hid (w.heap.size ≤ g2) := by show _ ≤ _; omega
  rw [← hg2] at f0 ⊢
  have F2 := Lib.hid f0
  have B1 := Lib.hid bb
  clear f0 bb hq eq hg2
  have R0 := Lib.hid (range_below R0.out B1.out)
  go_wp2_with ((with_reducible show wpList _ _ _ _ _ _); first | (refine wpList_load_mid rfl 30 (.tmp 5) rfl b 0 rfl ci _ R0.out Tryd.underlying30 rfl (by rw [LI.out]; kernel_rfl) ?_; go_frame) | (refine wpList_store_row rfl 30 (.tmp 2) (.tmp 6) rfl g2 ci.toArray rfl rfl 30 _ F2.out (by rw [LI'.out]; kernel_rfl) (by rw [LI'.out]; rfl) OI.out ?_; go_frame))
  refine bodyPost_ret (results_cell_row rfl _ _ g2 30 ci.toArray (0, 0) _ rfl (setRow_heap _ _ _ _ _ _ F2.out) Tryd.underlying30 rfl (by rw [LI'.out]; kernel_rfl)) rfl ⟨rfl, below_setRow B1.out (by have := Gg2.out; omega) _⟩
/-- The id of the ancestor of a height. -/
def ancA (L : List TNd) (k t : Int) : Option (List UInt8) := (ancT L k t).map fun j => (L.getD j.toNat ndZ).id
set_option maxHeartbeats 1000000 in
set_option maxRecDepth 100000 in
theorem ctancestor_any (w : World) (base b mb : Nat) (M : List CNd) (id : List UInt8) (t : Int) (h : CtAt w base b mb M) (ht : TrL (ndM M)) (hid : id.length = 32) :
    Calls Tryd.prog 19 #[(.pointer (some ⟨b, 0, none⟩)), .agg (id.map bV).toArray, .int .i64 t] w fun e w' => e = .returned (.tuple #[.agg (((ancA (ndM M) (findT (ndM M) id) t).getD (List.replicate 32 0)).map bV).toArray, .bool (ancA (ndM M) (findT (ndM M) id) t).isSome]) ∧ Below w.heap.size w w' := by
  have HT := Lib.hid h
  have TR := Lib.hid ht
  have LS := Lib.hid ht.start.1
  obtain ⟨vo, bo, hlk, hca⟩ := ct_look h ht id hid
  have LK := Lib.hid hlk
  have CA := Lib.hid hca
  have SC : Hid ((id.map bV).length = 32) := by show _ = _; rw [List.length_map]; exact hid
  obtain ⟨ci, hci⟩ : ∃ ci, ci = id.map bV := ⟨_, rfl⟩
  rw [← hci] at LK SC ⊢
  clear h ht hlk hca hid hci
  go_enter Tryd.func19, Tryd.ntmps19
  go_upto_region 1 with fail
  have f0 := row_below (heap_alloc_new w (.cells ci.toArray 30 (0, 0))) ((Below.refl _ _).alloc (Nat.le_refl _) (.cells (List.replicate 32 (bV 0)).toArray 30 (0, 0)))
  have f1 := heap_alloc_new (w.alloc (.cells ci.toArray 30 (0, 0))) (.cells (List.replicate 32 (bV 0)).toArray 30 (0, 0))
  have bb : Below w.heap.size w ((w.alloc (.cells ci.toArray 30 (0, 0))).alloc (.cells (List.replicate 32 (bV 0)).toArray 30 (0, 0))) := (((Below.refl w.heap.size w).alloc (by first | exact Nat.le_refl _ | (simp only [World.size_alloc]; omega)) (.cells ci.toArray 30 (0, 0))).alloc (by first | exact Nat.le_refl _ | (simp only [World.size_alloc]; omega)) (.cells (List.replicate 32 (bV 0)).toArray 30 (0, 0)))
  simp only [World.size_alloc] at f1
  generalize hq : World.alloc _ _ = w1
  have eq : (w.alloc (.cells ci.toArray 30 (0, 0))).alloc (.cells (List.replicate 32 (bV 0)).toArray 30 (0, 0)) = w1 := hq
  rw [eq] at f0 f1 bb
  obtain ⟨g6, hg6⟩ : ∃ g6, g6 = w.heap.size + 1 := ⟨_, rfl⟩
  have Gg6 : Hid (w.heap.size ≤ g6) := by show _ ≤ _; omega
  rw [← hg6] at f1 ⊢
  obtain ⟨g3, hg3⟩ : ∃ g3, g3 = w.heap.size := ⟨_, rfl⟩
  have Gg3 : Hid (w.heap.size ≤ g3) := by show _ ≤ _; omega
  rw [← hg3] at f0 ⊢
  have F3 := Lib.hid f0
  have F6 := Lib.hid f1
  have B1 := Lib.hid bb
  clear f0 f1 bb hq eq hg3 hg6
  refine wp_region_held_drew (S := (fun w' => Below w1.heap.size w1 w')) (by kernel_rfl) (Below.drew (Below.refl _ _)) (fun hHeld => ?_)
  generalize hwd : w1.drew = wd at  hHeld ⊢
  clear hwd
  refine held_take (i := 0) (v := (.pointer (some ⟨b, 0, none⟩))) rfl (by kernel_rfl) (by kernel_rfl) (by kernel_rfl) (fun _ _ _ h => h) (Or.inl ⟨by rfl, fun w' _ => by kernel_rfl⟩) hHeld ?_
  go_frame
  refine held_take (i := 1) (v := (.pointer (some ⟨b, 0, none⟩))) rfl (by kernel_rfl) (by kernel_rfl) (by kernel_rfl) (fun _ _ _ h => h) (Or.inl ⟨by rfl, fun w' _ => by kernel_rfl⟩) hHeld ?_
  go_frame
  refine held_take (i := 2) (v := (.pointer (some ⟨b, 32, none⟩))) rfl (by kernel_rfl) (by kernel_rfl) (by kernel_rfl) (fun _ _ _ h => h) (Or.inl ⟨by rfl, fun w' _ => by kernel_rfl⟩) hHeld ?_
  go_frame
  refine held_take (i := 3) (v := (.map (some mb))) rfl (by kernel_rfl) (by kernel_rfl) (by kernel_rfl) (fun _ _ _ h => h) (yieldsIf_load_one (by rfl) 65 (.tmp 13) rfl b (32) rfl _ _ (fun w' hw' => (HT.out.below (B1.out.trans (hw'.mono B1.out.size))).mcell LS.out) Tryd.underlying65 rfl) hHeld ?_
  go_frame
  refine held_take (i := 4) (v := (.agg ci.toArray)) rfl (by kernel_rfl) (by kernel_rfl) (by kernel_rfl) (fun _ _ _ h => h) (yieldsIf_load_row (by rfl) 30 (.tmp 4) rfl g3 rfl 30 ci.toArray (0, 0) _ (fun w' hw' => row_below F3.out hw') Tryd.underlying30 rfl (by show _ = some ci.length; rw [SC.out]; kernel_rfl)) hHeld ?_
  go_frame
  refine held_take (i := 5) (v := (.tuple #[vo, .bool bo])) rfl (by kernel_rfl) (by kernel_rfl) (by kernel_rfl) (fun _ _ _ h => h) (yieldsIf_lookup (by rfl) 65 (.tmp 14) (.tmp 15) true rfl _ _ _ rfl rfl (fun w' hw' => LK.out w' (B1.out.trans (hw'.mono B1.out.size)))) hHeld ?_
  go_frame
  refine held_take (i := 6) (v := (.tuple #[vo, .bool bo])) rfl (by kernel_rfl) (by kernel_rfl) (by kernel_rfl) (fun _ _ _ h => h) (Or.inl ⟨by rfl, fun w' _ => by kernel_rfl⟩) hHeld ?_
  go_frame
  refine held_take (i := 7) (v := vo) rfl (by kernel_rfl) (by kernel_rfl) (by kernel_rfl) (fun _ _ _ h => h) (Or.inl ⟨by rfl, fun w' _ => by kernel_rfl⟩) hHeld ?_
  go_frame
  refine held_take (i := 8) (v := (.bool bo)) rfl (by kernel_rfl) (by kernel_rfl) (by kernel_rfl) (fun _ _ _ h => h) (Or.inl ⟨by rfl, fun w' _ => by kernel_rfl⟩) hHeld ?_
  go_frame
  refine held_take (i := 9) (v := vo) rfl (by kernel_rfl) (by kernel_rfl) (by kernel_rfl) (fun _ _ _ h => h) (Or.inl ⟨by rfl, fun w' _ => by kernel_rfl⟩) hHeld ?_
  go_frame
  refine held_take (i := 10) (v := (.bool bo)) rfl (by kernel_rfl) (by kernel_rfl) (by kernel_rfl) (fun _ _ _ h => h) (Or.inl ⟨by rfl, fun w' _ => by kernel_rfl⟩) hHeld ?_
  go_frame
  refine wpAnyH_done (by kernel_rfl) ?_ _
  obtain ⟨v9, hv9⟩ : ∃ v9, v9 = wd := ⟨_, rfl⟩
  rw [← hv9] at  hHeld ⊢
  clear hv9
  have B2 := Lib.hid (B1.out.trans (hHeld.mono B1.out.size))
  have F6 := Lib.hid (row_below F6.out hHeld)
  clear hHeld LK F3 B1
  rcases CA.out with ⟨h1, rfl, rfl⟩ | ⟨k, c, h1, h2, h3, rfl, rfl⟩
  · have AE : Hid (ancA (ndM M) (findT (ndM M) id) t = none) := by show _ = _; unfold ancA; rw [h1, anc_neg (by omega)]; rfl
    clear h1
    go_wp2_with ((with_reducible show wpList _ _ _ _ _ _); first | (refine wpList_buildTo rfl 30 _ rfl _ rfl (List.replicate 32 (bV 0)).toArray (by kernel_rfl) ?_; go_frame) | (refine wpList_store_row rfl 30 (.tmp 6) (.tmp 33) rfl g6 (List.replicate 32 (bV 0)).toArray rfl rfl 30 _ F6.out (by kernel_rfl) rfl (by kernel_rfl) ?_; go_frame))
    refine bodyPost_ret (results_row_tmp rfl _ _ g6 30 (List.replicate 32 (bV 0)).toArray (0, 0) _ rfl (setRow_heap _ _ _ _ _ _ F6.out) Tryd.underlying30 rfl (by kernel_rfl)) rfl ?_
    rw [AE.out]
    exact ⟨rfl, below_setRow B2.out (by have := Gg6.out; omega) _⟩
  · have c100 := (HT.out.cells TR.out h2 B2.out).1
    obtain ⟨H, hH⟩ : ∃ H, H = c.nd.height := ⟨_, rfl⟩
    rw [← hH] at c100
    have HE := Lib.hid hH
    have H2 := Lib.hid h2
    have H1 := Lib.hid h1
    clear h1 h2 h3 hH
    by_cases ht0 : t < 0
    · have AE : Hid (ancA (ndM M) (findT (ndM M) id) t = none) := by show _ = _; unfold ancA; rw [H1.out, anc_none TR.out (ndM_at H2.out) (.inl ht0)]; rfl
      go_wp2_with ((with_reducible show wpList _ _ _ _ _ _); first | (refine wpList_buildTo rfl 30 _ rfl _ rfl (List.replicate 32 (bV 0)).toArray (by kernel_rfl) ?_; go_frame) | (refine wpList_store_row rfl 30 (.tmp 6) (.tmp 33) rfl g6 (List.replicate 32 (bV 0)).toArray rfl rfl 30 _ F6.out (by kernel_rfl) rfl (by kernel_rfl) ?_; go_frame))
      refine bodyPost_ret (results_row_tmp rfl _ _ g6 30 (List.replicate 32 (bV 0)).toArray (0, 0) _ rfl (setRow_heap _ _ _ _ _ _ F6.out) Tryd.underlying30 rfl (by kernel_rfl)) rfl ?_
      rw [AE.out]
      exact ⟨rfl, below_setRow B2.out (by have := Gg6.out; omega) _⟩
    by_cases ht1 : H < t
    · have AE : Hid (ancA (ndM M) (findT (ndM M) id) t = none) := by show _ = _; unfold ancA; rw [H1.out, anc_none TR.out (ndM_at H2.out) (.inr (by rw [← HE.out]; exact ht1))]; rfl
      go_wp2_with ((with_reducible show wpList _ _ _ _ _ _); first | (refine wpList_buildTo rfl 30 _ rfl _ rfl (List.replicate 32 (bV 0)).toArray (by kernel_rfl) ?_; go_frame) | (refine wpList_store_row rfl 30 (.tmp 6) (.tmp 33) rfl g6 (List.replicate 32 (bV 0)).toArray rfl rfl 30 _ F6.out (by kernel_rfl) rfl (by kernel_rfl) ?_; go_frame))
      refine bodyPost_ret (results_row_tmp rfl _ _ g6 30 (List.replicate 32 (bV 0)).toArray (0, 0) _ rfl (setRow_heap _ _ _ _ _ _ F6.out) Tryd.underlying30 rfl (by kernel_rfl)) rfl ?_
      rw [AE.out]
      exact ⟨rfl, below_setRow B2.out (by have := Gg6.out; omega) _⟩
    go_upto_region 4 with fail
    have DN := ctdown_any w base b mb M k c t HT.out TR.out H2.out (by omega) (by rw [← HE.out]; omega) v9 B2.out
    go_wp2_with fail
    refine DN.mono ?_
    rintro e w' ⟨⟨j, d, hd, ha, hh, rfl⟩, rfl⟩
    have AE : Hid (ancA (ndM M) (findT (ndM M) id) t = some d.nd.id) := by show _ = _; unfold ancA; rw [H1.out, ha]; show some ((ndM M).getD (j : Int).toNat ndZ).id = _; rw [getD_int (ndM_at hd)]
    have ok := TR.out.ok _ (List.mem_of_getElem? (ndM_at hd))
    have RI := Lib.hid (HT.out.idr hd B2.out)
    have LI : Hid ((d.nd.id.map bV).length = 32) := by show _ = _; rw [List.length_map]; exact ok.1
    have LI' : Hid ((d.nd.id.map bV).toArray.size = 32) := by show _ = _; rw [List.size_toArray]; exact LI.out
    have OI : Hid ((d.nd.id.map bV).toArray.all (·.oneCell') = true) := bV_one _
    obtain ⟨cd, hcd⟩ : ∃ cd, cd = d.nd.id.map bV := ⟨_, rfl⟩
    have CDE := Lib.hid hcd
    rw [← hcd] at RI LI LI' OI
    clear hd ha hh ok hcd DN ht0 ht1 c100
    go_wp2_with ((with_reducible show wpList _ _ _ _ _ _); first | (refine wpList_load_mid rfl 30 (.tmp 38) rfl d.ad 0 rfl cd _ RI.out Tryd.underlying30 rfl (by rw [LI.out]; kernel_rfl) ?_; go_frame) | (refine wpList_store_row rfl 30 (.tmp 6) (.tmp 39) rfl g6 cd.toArray rfl rfl 30 _ F6.out (by rw [LI'.out]; kernel_rfl) (by rw [LI'.out]; rfl) OI.out ?_; go_frame))
    refine bodyPost_ret (results_row_tmp rfl _ _ g6 30 cd.toArray (0, 0) _ rfl (setRow_heap _ _ _ _ _ _ F6.out) Tryd.underlying30 rfl (by rw [LI'.out]; kernel_rfl)) rfl ?_
    rw [AE.out, CDE.out]
    exact ⟨rfl, below_setRow B2.out (by have := Gg6.out; omega) _⟩
end Go.Proofs.YtnhmjlljnckieaaDoor.Sha

/-
  The statements' own digests of transactions. New memory; nothing that was there turns. Condition: transactions of a few inputs and outputs that lie in memory.
-/
namespace Go.Proofs.YtnhmjlljnckieaaDoor.Sha
open Go Go.RowKit
set_option maxHeartbeats 1000000 in
set_option maxRecDepth 100000 in
theorem rid_any (t : TTx) (v : Value) (w : World) (h1 : TxAt w v t) (hs : TxSmall t) :
    Calls Tryd.prog 45 #[v] w fun e w' => e = .returned (.agg ((sha (sha (txB t))).map bV).toArray) ∧ Below w.heap.size w w' := by
  have H1 := Lib.hid h1
  obtain ⟨_, iv, ov, rfl, h2, h3⟩ := h1
  have TL : Hid ((txB t).length ≤ 35184372088832) := hs.len
  have TB : Hid (∀ W, Below w.heap.size w W → Calls Tryd.prog 51 #[.agg (txL t iv ov).toArray] W fun e w' => ∃ v', e = .returned v' ∧ w'.ownsRow W.heap.size 5 1 v' (txB t).length ((txB t).map bV) ∧ Below W.heap.size W w') :=
    fun W hW => rtxb_any t _ W (H1.out.below hW) hs.ins hs.outs (Nat.le_trans hs.2.1 (by omega)) (Nat.le_trans hs.2.2.1 (by omega))
  have LC' : Hid ((txL t iv ov).toArray.size = 4) := rfl
  obtain ⟨ct, hct⟩ : ∃ ct, ct = txL t iv ov := ⟨_, rfl⟩
  rw [← hct] at TB LC' ⊢
  obtain ⟨dg, hdg⟩ : ∃ dg, dg = ((sha (sha (txB t))).map bV).toArray := ⟨_, rfl⟩
  have HOne : Hid (dg.all (·.oneCell') = true) := by show _ = _; rw [hdg]; exact bV_one _
  have HLen : Hid (dg.size = 32) := by show _ = _; rw [hdg]; simp [sha_length]
  have TW : Hid (∀ W sp n cap, SrcB W (.slice sp n cap) (txB t) → n ≤ 35184372088832 → Calls Tryd.prog 22 #[.slice sp n cap] W fun e w' => e = .returned (.agg dg) ∧ Below W.heap.size W w') := fun W sp n cap h1 h2 => by rw [hdg]; exact ref_twice (txB t) sp n cap W h1 h2
  rw [← hdg]
  clear hdg hct h2 h3
  go_enter Tryd.func45, Tryd.ntmps45
  go_upto_region 1 with fail
  have f1 := row_below (heap_alloc_new w (.cells ct.toArray 81 (0, 0))) ((Below.refl _ _).alloc (Nat.le_refl _) (.cells (List.replicate 32 (bV 0)).toArray 30))
  have f2 := heap_alloc_new (w.alloc (.cells ct.toArray 81 (0, 0))) (.cells (List.replicate 32 (bV 0)).toArray 30)
  have b1 := ((Below.refl w.heap.size w).alloc (Nat.le_refl _) (.cells ct.toArray 81 (0, 0))).alloc (by simp) (.cells (List.replicate 32 (bV 0)).toArray 30)
  rw [World.size_alloc] at f2
  generalize hw1 : World.alloc _ _ = w1
  have e1 : (w.alloc (.cells ct.toArray 81 (0, 0))).alloc (.cells (List.replicate 32 (bV 0)).toArray 30) = w1 := hw1
  rw [e1] at f1 f2 b1
  have F1 := Lib.hid f1
  have F2 := Lib.hid f2
  have B1 := Lib.hid b1
  clear f1 f2 b1 hw1 e1
  go_wp2_with ((with_reducible show wpList _ _ _ _ _ _); refine wpList_load_row rfl 81 (.tmp 1) rfl w.heap.size rfl 81 ct.toArray (0, 0) _ F1.out Tryd.underlying81 rfl (by rw [LC'.out]; kernel_rfl) ?_; go_frame)
  refine (TB.out w1 B1.out).mono ?_
  rintro e w2 ⟨v2, rfl, ho, hb2⟩
  have S2 := Lib.hid (src_own ho)
  obtain ⟨s2, n2, c2, rfl, hn2, _⟩ := (src_own ho).shape'
  have HN : Hid (n2 ≤ 35184372088832) := by show _ ≤ _; rw [hn2]; exact TL.out
  have B2 := Lib.hid (B1.out.trans (hb2.mono B1.out.size))
  have F2 := Lib.hid (row_below F2.out hb2)
  clear ho hb2 hn2
  go_wp2_with fail
  refine (TW.out w2 _ _ _ S2.out HN.out).mono ?_
  rintro e w3 ⟨rfl, hb3⟩
  have B3 := Lib.hid (B2.out.trans (hb3.mono B2.out.size))
  have F3 := Lib.hid (row_below F2.out hb3)
  clear hb3
  go_wp2_with ((with_reducible show wpList _ _ _ _ _ _); refine wpList_store_row rfl 30 (.tmp 2) (.tmp 5) rfl (w.heap.size + 1) dg rfl rfl 30 _ F3.out (by rw [HLen.out]; kernel_rfl) (by rw [HLen.out]; rfl) HOne.out ?_; go_frame)
  refine bodyPost_ret (results_cell_row rfl _ _ (w.heap.size + 1) 30 dg (0, 0) (.array 32 5) rfl (setRow_heap _ _ _ _ _ _ F3.out) Tryd.underlying30 rfl (by rw [HLen.out]; kernel_rfl)) rfl ⟨rfl, below_setRow B3.out (Nat.le_succ _) _⟩
def RiInv (n : Nat) (l : List TTx) (w1 : World) (vb vi : Value) (wr : World) : Prop :=
  ∃ (k : Nat) (vq : Value), vq = vb ∧ k ≤ n ∧ vi = .int .i64 k ∧ HsOwn w1.heap.size wr vq (idsL (l.take k)) ∧ Below w1.heap.size w1 wr
set_option maxHeartbeats 2000000 in
set_option maxRecDepth 100000 in
theorem rids_any (l : List TTx) (v : Value) (w : World) (h1 : TxsAt w v l) (hs : ∀ t ∈ l, TxSmall t) (hl : l.length ≤ 1000) :
    Calls Tryd.prog 36 #[v] w fun e w' => ∃ v', e = .returned v' ∧ HsOwn w.heap.size w' v' (idsL l) ∧ Below w.heap.size w w' := by
  obtain ⟨i0, hi, hz0, hz1, hz2⟩ := info_parts info_hash
  obtain ⟨sp, cap, rfl⟩ := h1.shape
  obtain ⟨n, hn⟩ : ∃ n, n = l.length := ⟨_, rfl⟩
  rw [← hn] at h1 ⊢
  have HT := Lib.hid h1
  have NN := Lib.hid hn
  have TS := Lib.hid hs
  have bn : n ≤ 1000 := by rw [hn]; exact hl
  clear h1 hn hs hl
  go_enter Tryd.func36, Tryd.ntmps36
  go_wp2_with fail
  go_loopw [3, 4] (fun vb vi wr => RiInv n l w vb vi wr) (fun _ i _ => n - (intOf i).toNat)
  case atStart => exact ⟨0, _, rfl, by omega, rfl, HsOwn.nil _ _, Below.refl _ _⟩
  case round =>
    obtain ⟨k, vb, rfl, hk, rfl, HO, B⟩ := hrel
    have HO := Lib.hid HO
    have B := Lib.hid B
    by_cases hlt : k < n
    · obtain ⟨b, o, hs1, _, hg⟩ := HT.out.get (by omega)
      obtain ⟨t, hgt⟩ : ∃ t, l[k]? = some t := ⟨_, List.getElem?_eq_getElem (by have := NN.out; omega)⟩
      obtain ⟨iv, ov, hr, hta⟩ := hg k t hgt
      have LC : Hid ((txL t iv ov).length = 4) := rfl
      obtain ⟨ct, hct⟩ : ∃ ct, ct = txL t iv ov := ⟨_, rfl⟩
      rw [← hct] at hr hta LC
      have R := Lib.hid (range_below hr B.out)
      obtain ⟨d, hd⟩ : ∃ d, d = sha (sha (txB t)) := ⟨_, rfl⟩
      have LD : Hid (d.length = 32) := by show _ = _; rw [hd]; exact sha_length _
      have LX : Hid ((d.map bV).length = 32) := by show _ = _; rw [List.length_map, LD.out]
      have IDC : Hid (Calls Tryd.prog 45 #[.agg ct.toArray] wr fun e w' => e = .returned (.agg (d.map bV).toArray) ∧ Below wr.heap.size wr w') := by
        rw [hd]
        exact rid_any t _ wr (hta.below B.out) (TS.out t (List.mem_of_getElem? hgt))
      have HTL : Hid ((idsL (l.take k)).length ≤ 1048576) := by show _ ≤ _; rw [idsL_length, List.length_take]; omega
      have GT := Lib.hid hgt
      have HD := Lib.hid hd
      have p0 : 0 ≤ (k : Int) := by omega
      have q0 : (k : Int) < (n : Int) := by omega
      subst hs1
      clear hg hgt hr hta hct hd
      go_wp2_with ((with_reducible show wpList _ _ _ _ _ _); (refine wpList_load_mid rfl 81 (.tmp 14) rfl b (o + k * 4) rfl ct _ R.out Tryd.underlying81 rfl (by rw [LC.out]; kernel_rfl) ?_; go_frame))
      refine IDC.out.mono ?_
      rintro e w6 ⟨rfl, hb6⟩
      have HO6 := Lib.hid (HO.out.keep hb6)
      have B6 := Lib.hid (B.out.trans (hb6.mono B.out.size))
      clear hb6 HO IDC
      go_wp2_with (first | ((with_reducible show wpList _ _ _ _ _ _); (refine wpList_slice_one rfl 38 30 (.tmp 16) rfl (d.map bV) rfl Tryd.underlying38 i0 _ hi hz0 (by rw [hz1, LX.out]) (by rw [LX.out]; omega) (by rw [LX.out]; omega) ?_; have nf := heap_alloc_new w6 (.cells ((d.map bV)).toArray 30 (0, 0)); have bb := (Below.refl w6.heap.size w6).alloc (Nat.le_refl _) (.cells ((d.map bV)).toArray 30 (0, 0)); obtain ⟨gn, hgn⟩ : ∃ g, g = w6.heap.size := ⟨_, rfl⟩; generalize hq : World.alloc _ _ = w7; have e2 : w6.alloc (.cells ((d.map bV)).toArray 30 (0, 0)) = w7 := hq; rw [e2] at nf bb; rw [← hgn] at nf ⊢; have NF := Lib.hid nf; have B7 := Lib.hid (B6.out.trans (bb.mono B6.out.size)); have HO7 := Lib.hid (HO6.out.keep bb); clear nf bb hq e2 hgn; go_frame)) | (at_builtin; refine wpList_append_own_at _ rfl _ _ 38 rfl w.heap.size 30 i0 (.agg (List.replicate 32 (bV 0)).toArray) 32 32 Tryd.underlying38 hi hz0 hz1 hz2 (by kernel_rfl) (by decide) vb _ (hsL (idsL (l.take k))) rfl HO7.out.1 ⟨gn, 0, none⟩ 1 1 (d.map bV) rfl (by rw [LX.out]) (hs_one NF.out) (bV_one' _) (by have := HTL.out; unfold maxLen; omega) (by have := HTL.out; omega) B7.out.size ?_; intro v8 w8 q1 q2 _ q4; have HO8 := Lib.hid (HsOwn.push (base := w.heap.size) HO7.out.2 LD.out q1); have B8 := Lib.hid (own_grown B7.out (Nat.le_refl _) B7.out.size HO7.out.1 q2); clear q1 q2 q4; go_frame))
      go_roundw
      case rel => exact ⟨k + 1, _, rfl, by omega, by go_num, by rw [idsL_snoc GT.out, ← HD.out]; exact HO8.out, B8.out⟩
      case measure => simp [intOf]; omega
    · have hkn : k = n := by omega
      have hge : ¬ (k : Int) < (n : Int) := by omega
      have HF : Hid (HsOwn w.heap.size wr vb (idsL l)) := by
        have h := HO.out
        rw [hkn, NN.out, List.take_length] at h
        exact h
      clear HO hkn
      go_wp2_with fail
      go_ret
      exact ⟨_, rfl, HF.out, B.out⟩
end Go.Proofs.YtnhmjlljnckieaaDoor.Sha

/-
  The statements' own pair: the digest above two. Nothing that was there turns. No conditions.
-/
namespace Go.Proofs.YtnhmjlljnckieaaDoor.Sha
open Go Go.RowKit
set_option maxHeartbeats 2000000 in
set_option maxRecDepth 100000 in
theorem pair_any (a b : List UInt8) (ha : a.length = 32) (hb : b.length = 32) (w : World) :
    Calls Tryd.prog 50 #[.agg (a.map bV).toArray, .agg (b.map bV).toArray] w fun e w' => e = .returned (.agg ((prH a b).map bV).toArray) ∧ Below w.heap.size w w' := by
  obtain ⟨i0, hi, hz0, hz1, hz2⟩ := info_parts info_u8
  have HA := Lib.hid ha
  have HB := Lib.hid hb
  have HOne := Lib.hid (bV_one (prH a b))
  have HLen : Hid ((((prH a b).map bV).toArray).size = 32) := by show _ = _; simp [prH_length]
  obtain ⟨dg, hdg⟩ : ∃ dg, dg = ((prH a b).map bV).toArray := ⟨_, rfl⟩
  rw [← hdg] at HOne HLen ⊢
  have HD := Lib.hid hdg
  clear hdg ha hb
  go_enter Tryd.func50, Tryd.ntmps50
  go_upto_region 1 with fail
  obtain ⟨b1, f1, f2, f3⟩ := boxes_two_zero w (a.map bV).toArray (b.map bV).toArray (List.replicate 32 (bV 0)).toArray 30
  generalize hw1 : World.alloc _ _ = w1
  have e1 : ((w.alloc (.cells (a.map bV).toArray 30 (0, 0))).alloc (.cells (b.map bV).toArray 30 (0, 0))).alloc (.cells (List.replicate 32 (bV 0)).toArray 30 (0, 0)) = w1 := hw1
  rw [e1] at b1 f1 f2 f3
  clear hw1 e1
  have F1 := Lib.hid f1
  have F2 := Lib.hid f2
  have F3 := Lib.hid f3
  have B1 := Lib.hid b1
  clear f1 f2 f3 b1
  refine wp_region_held_drew (S := (fun _ => True)) (by kernel_rfl) trivial (fun hHeld => ?_)
  have bb := Below.drew (Below.refl w1.heap.size w1)
  generalize hw2 : w1.drew = w2
  rw [hw2] at bb
  have F1 := Lib.hid (row_below F1.out bb)
  have F2 := Lib.hid (row_below F2.out bb)
  have F3 := Lib.hid (row_below F3.out bb)
  have B2 := Lib.hid (B1.out.trans (bb.mono B1.out.size))
  have B2G : Hid (w.heap.size + 2 < w2.heap.size) := by show _ < _; exact (Array.getElem?_eq_some_iff.1 F3.out).1
  clear hw2 bb B1
  refine held_take (i := 0) (v := (.slice (some ⟨w.heap.size, 0, none⟩) 32 32)) rfl (by kernel_rfl) (by kernel_rfl) (by kernel_rfl) (fun _ _ _ h => h) (Or.inl ⟨by rfl, fun w' _ => by kernel_rfl⟩) hHeld ?_
  go_frame
  refine held_take (i := 2) (v := (.slice (some ⟨w.heap.size + 1, 0, none⟩) 32 32)) rfl (by kernel_rfl) (by kernel_rfl) (by kernel_rfl) (fun _ _ _ h => h) (Or.inl ⟨by rfl, fun w' _ => by kernel_rfl⟩) hHeld ?_
  go_frame
  refine wpAnyH_ready (rs := [1]) (by kernel_rfl) (by simp) (held_cons rfl (fun K hK => ?_) AllReadyH.nil)
  go_simp
  refine (bytes_copy_any a _ 32 32 w2 (src_block HA.out F1.out) (by omega)).mono ?_
  rintro e w3 ⟨rfl, ho, bb⟩
  have HO := Lib.hid ho
  have F2 := Lib.hid (row_below F2.out bb)
  have F3 := Lib.hid (row_below F3.out bb)
  have B3 := Lib.hid (B2.out.trans (bb.mono B2.out.size))
  have S23 := Lib.hid bb.size
  have g2lt : w.heap.size + 2 < w2.heap.size := by have := B2G.out; omega
  clear ho bb F1
  go_wp2_with fail
  refine hK.out _ _ trivial (fun hHeld => ?_)
  clear hK K
  refine wpAnyH_ready (rs := [3]) (by kernel_rfl) (by simp) (held_cons rfl (fun K hK => ?_) AllReadyH.nil)
  rw [if_pos (by rfl)]
  refine wp_append_row w3 (.tmp 6) (.tmp 7) 70 rfl w2.heap.size 5 i0 (.int .u8 0) 1 1 Tryd.underlying70 hi hz0 hz1 hz2 (by kernel_rfl) (by decide) (.slice (some ⟨w2.heap.size, 0, none⟩) 32 32) 32 (a.map bV) rfl HO.out ⟨w.heap.size + 1, 0, none⟩ 32 32 (b.map bV) rfl (by rw [List.length_map, HB.out]) (hs_one F2.out) (bV_one' _) (by unfold maxLen; omega) (by omega) S23.out ?_
  intro v4 w4 q1 q2 q3
  obtain ⟨g4, c4, hv4, hg4, hc4⟩ := own_shape q1 (by omega)
  subst hv4
  have q1' : w4.ownsRow w2.heap.size 5 1 (.slice (some ⟨g4, 0, none⟩) 64 c4) 64 ((a ++ b).map bV) := by rw [List.map_append]; exact q1
  have S4 := Lib.hid (src_own q1')
  have q2' : w3.grownBy w4 (some w2.heap.size) := q2
  have F3 := Lib.hid (row_far F3.out q2' (fun e => by have := Option.some.inj e; omega))
  have B4 := Lib.hid (B3.out.grown q2' B3.out.size (fun k hk => by cases hk; exact B2.out.size))
  clear q1 q2 q3 q1' q2' hg4 hc4 B3 F2 HO
  go_frame
  refine hK.out _ _ trivial (fun hHeld => ?_)
  clear hK K
  refine wpAnyH_ready (rs := [4]) (by kernel_rfl) (by simp) (held_cons rfl (fun K hK => ?_) AllReadyH.nil)
  go_simp
  have TW := ref_twice (a ++ b) (some ⟨g4, 0, none⟩) 64 c4 w4 S4.out (by omega)
  rw [show sha (sha (a ++ b)) = prH a b from rfl, ← HD.out] at TW
  refine TW.mono ?_
  clear TW
  rintro e w5 ⟨rfl, bb⟩
  have F3 := Lib.hid (row_below F3.out bb)
  have B5 := Lib.hid (B4.out.trans (bb.mono B4.out.size))
  clear bb B4 S4
  go_wp2_with fail
  refine hK.out _ _ trivial (fun hHeld => ?_)
  clear hK K
  refine wpAnyH_ready (rs := [5]) (by kernel_rfl) (by simp) (held_cons rfl (fun K hK => ?_) AllReadyH.nil)
  rw [if_pos (by rfl)]
  refine wp_store_part 30 (.tmp 4) (.tmp 9) rfl (w.heap.size + 2) 0 [] (List.replicate 32 (bV 0)) [] dg.toList 30 (.agg dg) rfl rfl (by simp [Value.cells]) rfl (by simp [HLen.out]) (by simpa using F3.out) (by rw [Array.length_toList, HLen.out]; kernel_rfl) (one_list HOne.out) ?_
  intro w6 q1 q2
  have f6 : w6.heap[w.heap.size + 2]? = some (.cells dg 30 (0, 0)) := by simpa using q1
  have F6 := Lib.hid f6
  have B6 := Lib.hid (B5.out.grown q2 B5.out.size (fun k hk => by cases hk; omega))
  clear q1 q2 f6
  go_frame
  refine hK.out _ _ trivial (fun hHeld => ?_)
  clear hK K
  refine wpAnyH_done (by kernel_rfl) ?_ _
  clear hHeld
  go_wp2_with fail
  refine bodyPost_ret (results_cell_row rfl _ _ (w.heap.size + 2) 30 dg (0, 0) (.array 32 5) rfl F6.out Tryd.underlying30 rfl (by rw [HLen.out]; kernel_rfl)) rfl ⟨rfl, B6.out⟩
end Go.Proofs.YtnhmjlljnckieaaDoor.Sha

/-
  The row above a row of digests: package merkle's, and the statements' own. New memory; nothing that was there turns. Conditions: the digests lie where the slice says; for package merkle's the table is there.
-/
namespace Go.Proofs.YtnhmjlljnckieaaDoor.Sha
open Go Go.RowKit
set_option maxHeartbeats 4000000 in
set_option maxRecDepth 100000 in
theorem row_ref (l : List (List UInt8)) (sp : Option Addr) (n cap : Nat) (w : World) (hl : HsAt w (.slice sp n cap) l) (hn : n ≤ 1048576) :
    Calls Tryd.prog 44 #[.slice sp n cap] w fun e w' => ∃ v, e = .returned v ∧ HsOwn w.heap.size w' v (rowL prH l) ∧ Below w.heap.size w w' := by
  obtain ⟨i0, hi, hz0, hz1, hz2⟩ := info_parts info_hash
  have hln := hl.len
  have hok := hl.1
  have HOK := Lib.hid hok
  have HLN := Lib.hid hln.1
  have HL := Lib.hid hl
  have LROW := Lib.hid (rowL_length prH l)
  obtain ⟨m, hm⟩ : ∃ m, m = (n + 1) / 2 := ⟨_, rfl⟩
  have hmb : m ≤ 1048576 := by omega
  have hm2 : 2 * m = n ∨ 2 * m = n + 1 := by omega

  have HMM := Lib.hid hm
  clear hl hln hok hm
  go_enter Tryd.func44, Tryd.ntmps44
  have HB0 := Lib.hid (Below.refl w.heap.size w)
  have HST : Hid (HsOwn w.heap.size w (.slice none 0 0) ((rowL prH l).take 0)) := HsOwn.nil _ _
  go_wp2_with fail
  go_loopw [3, 4] (fun vs vi wr => RaInv l n w vs vi wr) (fun _ vi _ => n + 1 - (intOf vi).toNat)
  case atStart => exact ⟨0, 0, _, rfl, by omega, by omega, rfl, HST.out, HB0.out⟩
  case round =>
    clear HST HB0
    obtain ⟨k, j, vb, rfl, hj1, hj, rfl, ho, hb⟩ := hrel
    have HO := Lib.hid ho
    have HB := Lib.hid hb
    have HJ := Lib.hid hj
    clear ho hb
    by_cases hlt : j < n
    · obtain ⟨b, o, rfl, hbw, hg⟩ := HL.out.get (by omega)
      obtain ⟨p, hp⟩ : ∃ p, p = otherN j n := ⟨_, rfl⟩
      have hpn : p < n := by rw [hp]; exact otherN_lt hlt
      obtain ⟨x, hx⟩ : ∃ x, x = l.getD j [] := ⟨_, rfl⟩
      obtain ⟨y, hy⟩ : ∃ y, y = l.getD p [] := ⟨_, rfl⟩
      have HX := Lib.hid (hg j hlt)
      have HY := Lib.hid (hg p hpn)
      rw [← hx] at HX
      rw [← hy] at HY
      have lx : x.length = 32 := by rw [hx]; exact HOK.out.get (by have := HLN.out; omega)
      have ly : y.length = 32 := by rw [hy]; exact HOK.out.get (by have := HLN.out; omega)
      have LX' := Lib.hid lx
      have LY' := Lib.hid ly
      have LX := Lib.hid (show x.length = 32 from lx)
      have LY := Lib.hid (show y.length = 32 from ly)
      have LP : Hid (((prH x y).map bV).length = 32) := by show _ = _; rw [List.length_map, prH_length]
      have lk : ((rowL prH l).take k).length ≤ 1048576 := by rw [List.length_take]; omega
      have LK := Lib.hid lk
      have ht : (rowL prH l).take (k + 1) = (rowL prH l).take k ++ [prH x y] := by
        have hkl : k < (rowL prH l).length := by rw [LROW.out]; have := HLN.out; omega
        have e := rowL_get prH [] l k (by have := HLN.out; omega)
        rw [List.getD_eq_getElem?_getD, List.getElem?_eq_getElem hkl] at e
        simp only [Option.getD_some] at e
        have e2 : otherN j n = if j + 1 < l.length then j + 1 else j := by
          unfold otherN
          rw [if_neg (show ¬ j % 2 = 1 by omega), ← HLN.out]
        rw [List.take_succ_eq_append_getElem hkl, e, hx, hy, hp, ← hj, e2]
      have HT := Lib.hid ht
      have HP := Lib.hid hp
      have p0 : 0 ≤ (j : Int) := by omega
      have q0 : (j : Int) < (n : Int) := by omega
      have p1 : 0 ≤ (p : Int) := by omega
      have q1 : (p : Int) < (n : Int) := by omega
      have wj : IntKind.i64.wrap ((j : Int) + 2) = (j : Int) + 2 := IntWalk.i64_in _ (by omega)
      have wj1 : IntKind.i64.wrap ((j : Int) + 1) = (j : Int) + 1 := IntWalk.i64_in _ (by omega)
      have wn1 : IntKind.i64.wrap ((n : Int) - 1) = (n : Int) - 1 := IntWalk.i64_in _ (by omega)
      have HM : Hid (min ((j : Int) + 1) ((n : Int) - 1) = (p : Int)) := by
        show _ = _
        rw [hp]
        unfold otherN
        rw [if_neg (show ¬ j % 2 = 1 by omega)]
        by_cases h : j + 1 < n
        · rw [if_pos h]; omega
        · rw [if_neg h]; omega
      clear hg hx hy hp hj lx ly ht lk
      go_wp2_with fail
      refine wp_region_held_drew (S := (fun w' => Below w.heap.size w w')) (by kernel_rfl) (Below.drew HB.out) (fun hHeld => ?_)
      have HO3 := Lib.hid (HO.out.keep (Below.drew (Below.refl wr.heap.size wr)))
      clear HO HB
      refine held_take (i := 0) (v := vb) rfl (by kernel_rfl) (by kernel_rfl) (by kernel_rfl) (fun _ _ _ h => h) (Or.inl ⟨by rfl, fun w' _ => by kernel_rfl⟩) hHeld ?_
      go_frame
      refine held_take (i := 1) (v := (.slice (some ⟨b, o, none⟩) n cap)) rfl (by kernel_rfl) (by kernel_rfl) (by kernel_rfl) (fun _ _ _ h => h) (Or.inl ⟨by rfl, fun w' _ => by kernel_rfl⟩) hHeld ?_
      go_frame
      refine held_take (i := 2) (v := (.int .i64 (j : Int))) rfl (by kernel_rfl) (by kernel_rfl) (by kernel_rfl) (fun _ _ _ h => h) (Or.inl ⟨by rfl, fun w' _ => by kernel_rfl⟩) hHeld ?_
      go_frame
      refine held_take (i := 3) (v := (.pointer (some ⟨b, o + j * 32, none⟩))) rfl (by kernel_rfl) (by kernel_rfl) (by kernel_rfl) (fun _ _ _ h => h) (Or.inl ⟨by rfl, fun w' _ => by go_simp⟩) hHeld ?_
      go_frame
      refine held_take (i := 4) (v := (.agg (x.map bV).toArray)) rfl (by kernel_rfl) (by kernel_rfl) (by kernel_rfl) (fun _ _ _ h => h) (yieldsIf_load_mid (by rfl) 30 (.tmp 14) rfl b (o + j * 32) rfl (x.map bV) _ (fun w' hw' => range_below HX.out hw') Tryd.underlying30 rfl (by rw [List.length_map, LX.out]; kernel_rfl)) hHeld ?_
      go_frame
      refine held_take (i := 5) (v := (.slice (some ⟨b, o, none⟩) n cap)) rfl (by kernel_rfl) (by kernel_rfl) (by kernel_rfl) (fun _ _ _ h => h) (Or.inl ⟨by rfl, fun w' _ => by kernel_rfl⟩) hHeld ?_
      go_frame
      refine held_take (i := 6) (v := (.int .i64 (j : Int))) rfl (by kernel_rfl) (by kernel_rfl) (by kernel_rfl) (fun _ _ _ h => h) (Or.inl ⟨by rfl, fun w' _ => by kernel_rfl⟩) hHeld ?_
      go_frame
      refine held_take (i := 7) (v := (.int .i64 ((j : Int) + 1))) rfl (by kernel_rfl) (by kernel_rfl) (by kernel_rfl) (fun _ _ _ h => h) (Or.inl ⟨by rfl, fun w' _ => by go_simp⟩) hHeld ?_
      go_frame
      refine held_take (i := 8) (v := (.slice (some ⟨b, o, none⟩) n cap)) rfl (by kernel_rfl) (by kernel_rfl) (by kernel_rfl) (fun _ _ _ h => h) (Or.inl ⟨by rfl, fun w' _ => by kernel_rfl⟩) hHeld ?_
      go_frame
      refine held_take (i := 9) (v := (.int .i64 (n : Int))) rfl (by kernel_rfl) (by kernel_rfl) (by kernel_rfl) (fun _ _ _ h => h) (Or.inl ⟨by rfl, fun w' _ => by kernel_rfl⟩) hHeld ?_
      go_frame
      refine held_take (i := 10) (v := (.int .i64 ((n : Int) - 1))) rfl (by kernel_rfl) (by kernel_rfl) (by kernel_rfl) (fun _ _ _ h => h) (Or.inl ⟨by rfl, fun w' _ => by go_simp⟩) hHeld ?_
      go_frame
      refine held_take (i := 11) (v := (.int .i64 (p : Int))) rfl (by kernel_rfl) (by kernel_rfl) (by kernel_rfl) (fun _ _ _ h => h) (Or.inl ⟨by rfl, fun w' _ => by go_simp; rw [HM.out]⟩) hHeld ?_
      go_frame
      refine held_take (i := 12) (v := (.pointer (some ⟨b, o + p * 32, none⟩))) rfl (by kernel_rfl) (by kernel_rfl) (by kernel_rfl) (fun _ _ _ h => h) (Or.inl ⟨by rfl, fun w' _ => by go_simp⟩) hHeld ?_
      go_frame
      refine held_take (i := 13) (v := (.agg (y.map bV).toArray)) rfl (by kernel_rfl) (by kernel_rfl) (by kernel_rfl) (fun _ _ _ h => h) (yieldsIf_load_mid (by rfl) 30 (.tmp 23) rfl b (o + p * 32) rfl (y.map bV) _ (fun w' hw' => range_below HY.out hw') Tryd.underlying30 rfl (by rw [List.length_map, LY.out]; kernel_rfl)) hHeld ?_
      go_frame
      refine wpAnyH_ready (rs := [14]) (by kernel_rfl) (by simp) (held_cons rfl (fun K hK => ?_) AllReadyH.nil)
      go_simp
      refine (pair_any x y LX'.out LY'.out _).mono ?_
      rintro e w4 ⟨rfl, bb⟩
      have HO4 := Lib.hid (HO3.out.keep bb)
      have hw4 := hHeld.trans (bb.mono hHeld.size)
      clear bb hHeld
      go_wp2_with fail
      refine hK.out _ _ hw4 (fun hHeld => ?_)
      clear hK K hw4
      refine wpAnyH_ready (rs := [15]) (by kernel_rfl) (by simp) (held_cons rfl (fun K hK => ?_) AllReadyH.nil)
      rw [if_pos (by rfl)]
      refine wp_slice_one 38 30 (.tmp 25) rfl ((prH x y).map bV) rfl Tryd.underlying38 i0 _ hi hz0 (by rw [hz1, LP.out]) (by rw [LP.out]; omega) (by rw [LP.out]; omega) ?_
      have nf := heap_alloc_new w4 (.cells ((prH x y).map bV).toArray 30 (0, 0))
      have bb := (Below.refl w4.heap.size w4).alloc (Nat.le_refl _) (.cells ((prH x y).map bV).toArray 30 (0, 0))
      obtain ⟨gn, hgn⟩ : ∃ gn, gn = w4.heap.size := ⟨_, rfl⟩
      generalize hw5 : World.alloc _ _ = w5
      have e5 : w4.alloc (.cells ((prH x y).map bV).toArray 30 (0, 0)) = w5 := hw5
      rw [e5] at nf bb
      rw [← hgn] at nf ⊢
      have NF := Lib.hid nf
      have HO5 := Lib.hid (HO4.out.keep bb)
      have hb5 := hHeld.trans (bb.mono hHeld.size)
      clear nf bb hw5 e5 hgn hHeld
      go_frame
      refine hK.out _ _ hb5 (fun hHeld => ?_)
      clear hK K hb5
      refine wpAnyH_ready (rs := [16]) (by kernel_rfl) (by simp) (held_cons rfl (fun K hK => ?_) AllReadyH.nil)
      rw [if_pos (by rfl)]
      refine wp_append_row w5 (.tmp 11) (.tmp 26) 38 rfl w.heap.size 30 i0 (.agg (List.replicate 32 (bV 0)).toArray) 32 32 Tryd.underlying38 hi hz0 hz1 hz2 (by kernel_rfl) (by decide) vb _ (hsL ((rowL prH l).take k)) rfl HO5.out.1 ⟨gn, 0, none⟩ 1 1 ((prH x y).map bV) rfl (by rw [LP.out]) (hs_one NF.out) (bV_one' _) (by have := LK.out; unfold maxLen; omega) (by have := LK.out; omega) hHeld.size ?_
      intro v6 w6 q1 q2 _
      have HO6 := Lib.hid (HsOwn.push (base := w.heap.size) HO5.out.2 (prH_length x y) q1)
      have hb6 := own_grown hHeld (Nat.le_refl _) hHeld.size HO5.out.1 q2
      clear q1 q2 hHeld
      go_frame
      refine hK.out _ _ hb6 (fun hHeld => ?_)
      clear hK K hb6
      refine held_take (i := 17) (v := v6) rfl (by kernel_rfl) (by kernel_rfl) (by kernel_rfl) (fun _ _ _ h => h) (Or.inl ⟨by rfl, fun w' _ => by kernel_rfl⟩) hHeld ?_
      go_frame
      refine wpAnyH_done (by kernel_rfl) ?_ _
      have HB6 := Lib.hid hHeld
      clear hHeld
      go_wp2_with fail
      go_roundw
      case rel =>
        refine ⟨k + 1, j + 2, _, rfl, by omega, by have := HJ.out; omega, by go_num, ?_, HB6.out⟩
        rw [HT.out]
        exact HO6.out
      case measure => simp [intOf]; omega
    · have HF : Hid (HsOwn w.heap.size wr vb (rowL prH l)) := by
        have h := HO.out
        rw [List.take_of_length_le (by rw [LROW.out]; have := HLN.out; omega)] at h
        exact h
      have hge : ¬ (j : Int) < (n : Int) := by omega
      clear HO hj
      go_wp2_with fail
      go_ret
      exact ⟨_, rfl, HF.out, HB.out⟩
end Go.Proofs.YtnhmjlljnckieaaDoor.Sha

/-
  The statements' own Root answers the root. Nothing that was there turns. Conditions: the digests lie where the slice says; at most 2^20 of them.
-/
namespace Go.Proofs.YtnhmjlljnckieaaDoor.Sha
open Go Go.RowKit
def rootRInv (R : List UInt8) (w : World) (vl : Value) (wr : World) : Prop :=
  ∃ l' : List (List UInt8), HsAt wr vl l' ∧ 1 ≤ l'.length ∧ l'.length ≤ 1048576 ∧ rootL prH zM l' = R ∧ Below w.heap.size w wr ∧ wr.heap[w.heap.size]? = some (.cells (List.replicate 32 (bV 0)).toArray 30 (0, 0))
set_option maxHeartbeats 2000000 in
set_option maxRecDepth 100000 in
theorem rootR_any (l : List (List UInt8)) (sp : Option Addr) (n cap : Nat) (w : World) (hl : HsAt w (.slice sp n cap) l) (hn : n ≤ 1048576) :
    Calls Tryd.prog 35 #[.slice sp n cap] w fun e w' => e = .returned (.agg ((rootL prH zM l).map bV).toArray) ∧ Below w.heap.size w w' := by
  have hlen := rootL_len _ l rfl hl.1
  have hln := hl.len.1
  have h0r : n = 0 → rootL prH zM l = zM := fun h => by
    rw [rootL_one prH zM (by omega), List.getD_eq_getElem?_getD, List.getElem?_eq_none (by omega)]
    rfl
  obtain ⟨R, hR⟩ : ∃ R, R = rootL prH zM l := ⟨_, rfl⟩
  rw [← hR] at hlen h0r ⊢
  have HR := Lib.hid hR
  have HS : Hid ((R.map bV).toArray.size = 32) := by show _ = _; simp [hlen]
  have HLR : Hid ((R.map bV).length = 32) := by show _ = _; simp [hlen]
  have HZ := Lib.hid h0r
  have HL := Lib.hid hl
  have HN := Lib.hid hln

  clear hR hlen hl hln h0r
  go_enter Tryd.func35, Tryd.ntmps35
  go_upto_region 1 with fail
  have F := Lib.hid (heap_alloc_new w (.cells (List.replicate 32 (bV 0)).toArray 30 (0, 0)))
  have B := Lib.hid ((Below.refl w.heap.size w).alloc (Nat.le_refl _) (.cells (List.replicate 32 (bV 0)).toArray 30 (0, 0)))
  generalize hw1 : World.alloc _ _ = w1
  have e1 : w.alloc (.cells (List.replicate 32 (bV 0)).toArray 30 (0, 0)) = w1 := hw1
  rw [e1] at F B
  clear hw1 e1
  by_cases h0 : n = 0
  · have t0 : ((n : Int) == 0) = true := by rw [beq_iff_eq]; omega
    obtain rfl : R = zM := HZ.out h0
    clear h0
    go_wp2_with ((with_reducible show wpList _ _ _ _ _ _); refine wpList_store_row rfl 30 (.tmp 2) (.tmp 6) rfl w.heap.size (zM.map bV).toArray rfl rfl 30 _ F.out (by rw [HS.out]; kernel_rfl) (by rw [HS.out]; rfl) (bV_one _) ?_; go_frame)
    refine bodyPost_ret (results_cell_row rfl _ _ w.heap.size 30 (zM.map bV).toArray (0, 0) (.array 32 5) rfl (setRow_heap _ _ _ _ _ _ F.out) Tryd.underlying30 rfl (by rw [HS.out]; kernel_rfl)) rfl ⟨rfl, below_setRow B.out (Nat.le_refl _) _⟩
  · have t0 : ((n : Int) == 0) = false := by rw [beq_eq_false_iff_ne]; omega
    have h1 : 1 ≤ n := by omega
    clear h0
    go_wp2_with fail
    go_loopw [0] (fun vl wr => rootRInv R w vl wr) (fun vl _ => slLen vl)
    case atStart => exact ⟨l, HL.out.below B.out, by have := HN.out; omega, by have := HN.out; omega, HR.out.symm, B.out, F.out⟩
    case round =>
      clear F B HL HN HR
      obtain ⟨l', hl, hm1, hm2, hr, hb, hf⟩ := hrel
      obtain ⟨sp', cap', rfl⟩ := hl.shape
      obtain ⟨m, hm⟩ : ∃ m, m = l'.length := ⟨_, rfl⟩
      rw [← hm] at hl hm1 hm2 ⊢
      have HL := Lib.hid hl
      have HM := Lib.hid hm
      have HR := Lib.hid hr
      have B := Lib.hid hb
      have F := Lib.hid hf
      clear hl hm hr hb hf
      by_cases h1m : 1 < m
      · have t1 : (m : Int) > 1 := by omega
        go_wp2_with fail
        refine (row_ref l' sp' m cap' _ HL.out hm2).mono ?_
        rintro e w2 ⟨v2, rfl, ho, hb2⟩
        obtain ⟨sp2, cap2, rfl⟩ := ho.at.shape
        obtain ⟨m2, hm3⟩ : ∃ m2, m2 = (rowL prH l').length := ⟨_, rfl⟩
        have hm4 : m2 = (m + 1) / 2 := by rw [hm3, rowL_length, ← HM.out]
        have HO := Lib.hid ho
        rw [← hm3] at HO ⊢
        have HM3 := Lib.hid hm3
        have B2 := Lib.hid (B.out.trans (hb2.mono B.out.size))
        have F2 := Lib.hid (row_below F.out hb2)
        have hm5 : 1 ≤ m2 := by omega
        have hm6 : m2 < m := by omega
        have HR2 : Hid (rootL prH zM (rowL prH l') = R) := by
          show _ = _
          rw [← rootL_more prH zM (by rw [← HM.out]; exact h1m)]
          exact HR.out
        clear ho hm3 hb2 hm4
        go_wp2_with fail
        go_roundw
        case rel => exact ⟨rowL prH l', HO.out.at, by rw [← HM3.out]; exact hm5, by rw [← HM3.out]; omega, HR2.out, B2.out, F2.out⟩
        case measure => exact hm6
      · have t1 : ¬ (m : Int) > 1 := by omega
        obtain rfl : m = 1 := by omega
        obtain ⟨b, o, rfl, hbw, hg⟩ := HL.out.get (by omega)
        have X : Hid (wr.rangeAt b o (R.map bV)) := by
          have h := hg 0 (by omega)
          rw [Nat.zero_mul, Nat.add_zero, getD_any (by have := HM.out; omega), ← rootL_one prH zM (by have := HM.out; omega), HR.out] at h
          exact h
        clear hg
        go_wp2_with ((with_reducible show wpList _ _ _ _ _ _); first | (refine wpList_load_mid rfl 30 (.tmp 13) rfl b o rfl (R.map bV) _ X.out Tryd.underlying30 rfl (by rw [HLR.out]; kernel_rfl) ?_; go_frame) | (refine wpList_store_row rfl 30 (.tmp 2) (.tmp 14) rfl w.heap.size (R.map bV).toArray rfl rfl 30 _ F.out (by rw [HS.out]; kernel_rfl) (by rw [HS.out]; rfl) (bV_one _) ?_; go_frame))
        refine bodyPost_ret (results_cell_row rfl _ _ w.heap.size 30 (R.map bV).toArray (0, 0) (.array 32 5) rfl (setRow_heap _ _ _ _ _ _ F.out) Tryd.underlying30 rfl (by rw [HS.out]; kernel_rfl)) rfl ⟨rfl, below_setRow B.out (Nat.le_refl _) _⟩
end Go.Proofs.YtnhmjlljnckieaaDoor.Sha
