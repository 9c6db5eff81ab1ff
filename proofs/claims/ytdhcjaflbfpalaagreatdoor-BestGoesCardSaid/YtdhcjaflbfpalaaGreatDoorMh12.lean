/-
  Texts of this proof joined into one file: RefTreeOf, CtGet, CtNew. What each holds, and under which conditions, its own first sentence tells.
-/
import Derived.Test.YtdhcjaflbfpalaaGreatDoorMh09
import Derived.Test.YtdhcjaflbfpalaaGreatDoorMh05
import Derived.Test.YtdhcjaflbfpalaaGreatDoorMh11
import Derived.Test.YtdhcjaflbfpalaaGreatDoorMh08
import Derived.Test.YtdhcjaflbfpalaaGreatDoorMh10
import Derived.Test.YtdhcjaflbfpalaaGreatDoorMh01
import Derived.Test.YtdhcjaflbfpalaaGreatDoorMh03
/-
  The statements' own tree: a block's header, height and work; which of two blocks goes ahead. Nothing that was there turns. Conditions: the tree lies where the pointer says, nodes as the model has them, at most 4096.
-/
namespace Go.Proofs.YtdhcjaflbfpalaaGreatDoor.Sha
open Go Go.RowKit
/-- What is known of a block. -/
def ofT (L : List TNd) (id : List UInt8) : THd × Int × Nat × Bool := if findT L id < 0 then (ndZ.h, 0, 0, false) else ((L.getD (findT L id).toNat ndZ).h, (L.getD (findT L id).toNat ndZ).height, (L.getD (findT L id).toNat ndZ).work, true)
end Go.Proofs.YtdhcjaflbfpalaaGreatDoor.Sha

/-
  The program's tree tells: the start, how many there are, a block's height, work, header, its ancestor of a height. Nothing that was there turns. Conditions: the tree lies where it should, nodes as the model has them.
-/
namespace Go.Proofs.YtdhcjaflbfpalaaGreatDoor.Sha
open Go Go.RowKit
theorem TrL.start {L : List TNd} (h : TrL L) : (L.getD 0 ndZ).id.length = 32 ∧ L[0]? = some (L.getD 0 ndZ) := by
  obtain ⟨x, hx⟩ : ∃ x, L[0]? = some x := ⟨_, List.getElem?_eq_getElem h.pos⟩
  rw [getD_at hx]
  exact ⟨(h.ok x (List.mem_of_getElem? hx)).1, hx⟩
/-- What the map tells of an id. -/
theorem ct_look {w : World} {base b mb : Nat} {M : List CNd} (h : CtAt w base b mb M) (ht : TrL (ndM M)) (id : List UInt8) (hid : id.length = 32) :
    ∃ (vo : Value) (bo : Bool), (∀ W, Below w.heap.size w W → (Instr.lookup 71 (.map (some mb)) (.agg (id.map bV).toArray) true).run Tryz.prog W = .ok (.tuple #[vo, .bool bo]) W) ∧
      ((findT (ndM M) id = -1 ∧ vo = .pointer none ∧ bo = false) ∨ ∃ (k : Nat) (c : CNd), findT (ndM M) id = (k : Int) ∧ M[k]? = some c ∧ c.nd.id = id ∧ vo = .pointer (some ⟨c.ad, 0, none⟩) ∧ bo = true) := by
  have hl : ∀ W, Below w.heap.size w W → (Instr.lookup 71 (.map (some mb)) (hK id) true).run Tryz.prog W = .ok (.tuple #[nptr ((getG (idsM M) id).getD none), .bool (getG (idsM M) id).isSome]) W := fun W hW => gm_look mty_nodes (h.below hW).mp id hid
  rcases look_ids ht.ids id with ⟨h1, h2⟩ | ⟨k, c, h1, h2, h3, h4⟩
  · rw [h2] at hl
    exact ⟨_, _, hl, .inl ⟨h1, rfl, rfl⟩⟩
  · rw [h4] at hl
    exact ⟨_, _, hl, .inr ⟨k, c, h1, h2, h3, rfl, rfl⟩⟩
set_option maxRecDepth 100000 in
theorem ctlen_any (w : World) (base b mb : Nat) (M : List CNd) (h : CtAt w base b mb M) (ht : TrL (ndM M)) :
    Calls Tryz.prog 59 #[(.pointer (some ⟨b, 0, none⟩))] w fun e w' => e = .returned (.int .i64 ((ndM M).length : Int)) ∧ w = w' := by
  have c32 := h.mcell ht.start.1
  have hq := fun ty => gm_len mty_nodes h.mp ty
  have EL : Hid ((idsM M).length = (ndM M).length) := by show _ = _; unfold idsM ndM; rw [List.length_map, List.length_map]
  clear h ht
  go_enter Tryz.func59, Tryz.ntmps59
  go_wp2_with fail
  go_ret
  exact ⟨by rw [EL.out]; rfl, rfl⟩
set_option maxHeartbeats 1000000 in
set_option maxRecDepth 100000 in
theorem ctheight_any (w : World) (base b mb : Nat) (M : List CNd) (id : List UInt8) (h : CtAt w base b mb M) (ht : TrL (ndM M)) (hid : id.length = 32) :
    Calls Tryz.prog 37 #[(.pointer (some ⟨b, 0, none⟩)), .agg (id.map bV).toArray] w fun e w' => e = .returned (.tuple #[.int .i64 (ofT (ndM M) id).2.1, .bool (ofT (ndM M) id).2.2.2]) ∧ Below w.heap.size w w' := by
  have HT := Lib.hid h
  have TR := Lib.hid ht
  have LS := Lib.hid ht.start.1
  obtain ⟨vo, bo, hlk, hca⟩ := ct_look h ht id hid
  have LK := Lib.hid hlk
  have CA := Lib.hid hca
  have SC : Hid ((id.map bV).length = 32) := by show _ = _; rw [List.length_map]; exact hid
  obtain ⟨ci, hci⟩ : ∃ ci, ci = id.map bV := ⟨_, rfl⟩
  rw [← hci] at LK SC ⊢
  clear h ht hlk hca hid hci
  go_enter Tryz.func37, Tryz.ntmps37
  go_upto_region 1 with fail
  have f0 := heap_alloc_new w (.cells ci.toArray 26 (0, 0))
  have bb : Below w.heap.size w (w.alloc (.cells ci.toArray 26 (0, 0))) := ((Below.refl w.heap.size w).alloc (by first | exact Nat.le_refl _ | (simp only [World.size_alloc]; omega)) (.cells ci.toArray 26 (0, 0)))
  generalize hq : World.alloc _ _ = w1
  have eq : w.alloc (.cells ci.toArray 26 (0, 0)) = w1 := hq
  rw [eq] at f0 bb
  obtain ⟨g3, hg3⟩ : ∃ g3, g3 = w.heap.size := ⟨_, rfl⟩
  have Gg3 : Hid (w.heap.size ≤ g3) := by show _ ≤ _; omega
  rw [← hg3] at f0 ⊢
  have F3 := Lib.hid f0
  have B1 := Lib.hid bb
  clear f0 bb hq eq hg3
  refine wp_region_held_drew (S := (fun w' => Below w1.heap.size w1 w')) (by kernel_rfl) (Below.drew (Below.refl _ _)) (fun hHeld => ?_)
  generalize hwd : w1.drew = wd at  hHeld ⊢
  clear hwd
  refine held_take (i := 0) (v := (.pointer (some ⟨b, 0, none⟩))) rfl (by kernel_rfl) (by kernel_rfl) (by kernel_rfl) (fun _ _ _ h => h) (Or.inl ⟨by rfl, fun w' _ => by kernel_rfl⟩) hHeld ?_
  go_frame
  refine held_take (i := 1) (v := (.pointer (some ⟨b, 0, none⟩))) rfl (by kernel_rfl) (by kernel_rfl) (by kernel_rfl) (fun _ _ _ h => h) (Or.inl ⟨by rfl, fun w' _ => by kernel_rfl⟩) hHeld ?_
  go_frame
  refine held_take (i := 2) (v := (.pointer (some ⟨b, 32, none⟩))) rfl (by kernel_rfl) (by kernel_rfl) (by kernel_rfl) (fun _ _ _ h => h) (Or.inl ⟨by rfl, fun w' _ => by kernel_rfl⟩) hHeld ?_
  go_frame
  refine held_take (i := 3) (v := (.map (some mb))) rfl (by kernel_rfl) (by kernel_rfl) (by kernel_rfl) (fun _ _ _ h => h) (yieldsIf_load_one (by rfl) 71 (.tmp 11) rfl b (32) rfl _ _ (fun w' hw' => (HT.out.below (B1.out.trans (hw'.mono B1.out.size))).mcell LS.out) Tryz.underlying71 rfl) hHeld ?_
  go_frame
  refine held_take (i := 4) (v := (.agg ci.toArray)) rfl (by kernel_rfl) (by kernel_rfl) (by kernel_rfl) (fun _ _ _ h => h) (yieldsIf_load_row (by rfl) 26 (.tmp 3) rfl g3 rfl 26 ci.toArray (0, 0) _ (fun w' hw' => row_below F3.out hw') Tryz.underlying26 rfl (by show _ = some ci.length; rw [SC.out]; kernel_rfl)) hHeld ?_
  go_frame
  refine held_take (i := 5) (v := (.tuple #[vo, .bool bo])) rfl (by kernel_rfl) (by kernel_rfl) (by kernel_rfl) (fun _ _ _ h => h) (yieldsIf_lookup (by rfl) 71 (.tmp 12) (.tmp 13) true rfl _ _ _ rfl rfl (fun w' hw' => LK.out w' (B1.out.trans (hw'.mono B1.out.size)))) hHeld ?_
  go_frame
  refine held_take (i := 6) (v := (.tuple #[vo, .bool bo])) rfl (by kernel_rfl) (by kernel_rfl) (by kernel_rfl) (fun _ _ _ h => h) (Or.inl ⟨by rfl, fun w' _ => by kernel_rfl⟩) hHeld ?_
  go_frame
  refine held_take (i := 7) (v := vo) rfl (by kernel_rfl) (by kernel_rfl) (by kernel_rfl) (fun _ _ _ h => h) (Or.inl ⟨by rfl, fun w' _ => by kernel_rfl⟩) hHeld ?_
  go_frame
  refine held_take (i := 8) (v := (.bool bo)) rfl (by kernel_rfl) (by kernel_rfl) (by kernel_rfl) (fun _ _ _ h => h) (Or.inl ⟨by rfl, fun w' _ => by kernel_rfl⟩) hHeld ?_
  go_frame
  refine held_take (i := 9) (v := vo) rfl (by kernel_rfl) (by kernel_rfl) (by kernel_rfl) (fun _ _ _ h => h) (Or.inl ⟨by rfl, fun w' _ => by kernel_rfl⟩) hHeld ?_
  go_frame
  refine held_take (i := 10) (v := (.bool bo)) rfl (by kernel_rfl) (by kernel_rfl) (by kernel_rfl) (fun _ _ _ h => h) (Or.inl ⟨by rfl, fun w' _ => by kernel_rfl⟩) hHeld ?_
  go_frame
  refine wpAnyH_done (by kernel_rfl) ?_ _
  obtain ⟨v9, hv9⟩ : ∃ v9, v9 = wd := ⟨_, rfl⟩
  rw [← hv9] at  hHeld ⊢
  clear hv9
  have B2 := Lib.hid (B1.out.trans (hHeld.mono B1.out.size))
  clear hHeld LK F3 B1
  rcases CA.out with ⟨h1, rfl, rfl⟩ | ⟨k, c, h1, h2, h3, rfl, rfl⟩
  · have AE : Hid (ofT (ndM M) id = (ndZ.h, 0, 0, false)) := by show _ = _; unfold ofT; rw [h1]; rfl
    clear h1
    go_wp2_with fail
    go_ret2
    exact ⟨by rw [AE.out]; rfl, B2.out⟩
  · have AE : Hid (ofT (ndM M) id = (c.nd.h, c.nd.height, c.nd.work, true)) := by show _ = _; unfold ofT; rw [h1, if_neg (by omega), getD_int (ndM_at h2)]
    have cc := (HT.out.cells TR.out h2 B2.out).1
    clear h1 h2 h3
    go_wp2_with fail
    go_ret2
    exact ⟨by rw [AE.out]; rfl, B2.out⟩
set_option maxHeartbeats 1000000 in
set_option maxRecDepth 100000 in
theorem ctwork_any (w : World) (base b mb : Nat) (M : List CNd) (id : List UInt8) (h : CtAt w base b mb M) (ht : TrL (ndM M)) (hid : id.length = 32) :
    Calls Tryz.prog 63 #[(.pointer (some ⟨b, 0, none⟩)), .agg (id.map bV).toArray] w fun e w' => e = .returned (.tuple #[.int .u64 ((ofT (ndM M) id).2.2.1 : Int), .bool (ofT (ndM M) id).2.2.2]) ∧ Below w.heap.size w w' := by
  have HT := Lib.hid h
  have TR := Lib.hid ht
  have LS := Lib.hid ht.start.1
  obtain ⟨vo, bo, hlk, hca⟩ := ct_look h ht id hid
  have LK := Lib.hid hlk
  have CA := Lib.hid hca
  have SC : Hid ((id.map bV).length = 32) := by show _ = _; rw [List.length_map]; exact hid
  obtain ⟨ci, hci⟩ : ∃ ci, ci = id.map bV := ⟨_, rfl⟩
  rw [← hci] at LK SC ⊢
  clear h ht hlk hca hid hci
  go_enter Tryz.func63, Tryz.ntmps63
  go_upto_region 1 with fail
  have f0 := heap_alloc_new w (.cells ci.toArray 26 (0, 0))
  have bb : Below w.heap.size w (w.alloc (.cells ci.toArray 26 (0, 0))) := ((Below.refl w.heap.size w).alloc (by first | exact Nat.le_refl _ | (simp only [World.size_alloc]; omega)) (.cells ci.toArray 26 (0, 0)))
  generalize hq : World.alloc _ _ = w1
  have eq : w.alloc (.cells ci.toArray 26 (0, 0)) = w1 := hq
  rw [eq] at f0 bb
  obtain ⟨g3, hg3⟩ : ∃ g3, g3 = w.heap.size := ⟨_, rfl⟩
  have Gg3 : Hid (w.heap.size ≤ g3) := by show _ ≤ _; omega
  rw [← hg3] at f0 ⊢
  have F3 := Lib.hid f0
  have B1 := Lib.hid bb
  clear f0 bb hq eq hg3
  refine wp_region_held_drew (S := (fun w' => Below w1.heap.size w1 w')) (by kernel_rfl) (Below.drew (Below.refl _ _)) (fun hHeld => ?_)
  generalize hwd : w1.drew = wd at  hHeld ⊢
  clear hwd
  refine held_take (i := 0) (v := (.pointer (some ⟨b, 0, none⟩))) rfl (by kernel_rfl) (by kernel_rfl) (by kernel_rfl) (fun _ _ _ h => h) (Or.inl ⟨by rfl, fun w' _ => by kernel_rfl⟩) hHeld ?_
  go_frame
  refine held_take (i := 1) (v := (.pointer (some ⟨b, 0, none⟩))) rfl (by kernel_rfl) (by kernel_rfl) (by kernel_rfl) (fun _ _ _ h => h) (Or.inl ⟨by rfl, fun w' _ => by kernel_rfl⟩) hHeld ?_
  go_frame
  refine held_take (i := 2) (v := (.pointer (some ⟨b, 32, none⟩))) rfl (by kernel_rfl) (by kernel_rfl) (by kernel_rfl) (fun _ _ _ h => h) (Or.inl ⟨by rfl, fun w' _ => by kernel_rfl⟩) hHeld ?_
  go_frame
  refine held_take (i := 3) (v := (.map (some mb))) rfl (by kernel_rfl) (by kernel_rfl) (by kernel_rfl) (fun _ _ _ h => h) (yieldsIf_load_one (by rfl) 71 (.tmp 11) rfl b (32) rfl _ _ (fun w' hw' => (HT.out.below (B1.out.trans (hw'.mono B1.out.size))).mcell LS.out) Tryz.underlying71 rfl) hHeld ?_
  go_frame
  refine held_take (i := 4) (v := (.agg ci.toArray)) rfl (by kernel_rfl) (by kernel_rfl) (by kernel_rfl) (fun _ _ _ h => h) (yieldsIf_load_row (by rfl) 26 (.tmp 3) rfl g3 rfl 26 ci.toArray (0, 0) _ (fun w' hw' => row_below F3.out hw') Tryz.underlying26 rfl (by show _ = some ci.length; rw [SC.out]; kernel_rfl)) hHeld ?_
  go_frame
  refine held_take (i := 5) (v := (.tuple #[vo, .bool bo])) rfl (by kernel_rfl) (by kernel_rfl) (by kernel_rfl) (fun _ _ _ h => h) (yieldsIf_lookup (by rfl) 71 (.tmp 12) (.tmp 13) true rfl _ _ _ rfl rfl (fun w' hw' => LK.out w' (B1.out.trans (hw'.mono B1.out.size)))) hHeld ?_
  go_frame
  refine held_take (i := 6) (v := (.tuple #[vo, .bool bo])) rfl (by kernel_rfl) (by kernel_rfl) (by kernel_rfl) (fun _ _ _ h => h) (Or.inl ⟨by rfl, fun w' _ => by kernel_rfl⟩) hHeld ?_
  go_frame
  refine held_take (i := 7) (v := vo) rfl (by kernel_rfl) (by kernel_rfl) (by kernel_rfl) (fun _ _ _ h => h) (Or.inl ⟨by rfl, fun w' _ => by kernel_rfl⟩) hHeld ?_
  go_frame
  refine held_take (i := 8) (v := (.bool bo)) rfl (by kernel_rfl) (by kernel_rfl) (by kernel_rfl) (fun _ _ _ h => h) (Or.inl ⟨by rfl, fun w' _ => by kernel_rfl⟩) hHeld ?_
  go_frame
  refine held_take (i := 9) (v := vo) rfl (by kernel_rfl) (by kernel_rfl) (by kernel_rfl) (fun _ _ _ h => h) (Or.inl ⟨by rfl, fun w' _ => by kernel_rfl⟩) hHeld ?_
  go_frame
  refine held_take (i := 10) (v := (.bool bo)) rfl (by kernel_rfl) (by kernel_rfl) (by kernel_rfl) (fun _ _ _ h => h) (Or.inl ⟨by rfl, fun w' _ => by kernel_rfl⟩) hHeld ?_
  go_frame
  refine wpAnyH_done (by kernel_rfl) ?_ _
  obtain ⟨v9, hv9⟩ : ∃ v9, v9 = wd := ⟨_, rfl⟩
  rw [← hv9] at  hHeld ⊢
  clear hv9
  have B2 := Lib.hid (B1.out.trans (hHeld.mono B1.out.size))
  clear hHeld LK F3 B1
  rcases CA.out with ⟨h1, rfl, rfl⟩ | ⟨k, c, h1, h2, h3, rfl, rfl⟩
  · have AE : Hid (ofT (ndM M) id = (ndZ.h, 0, 0, false)) := by show _ = _; unfold ofT; rw [h1]; rfl
    clear h1
    go_wp2_with fail
    go_ret2
    exact ⟨by rw [AE.out]; rfl, B2.out⟩
  · have AE : Hid (ofT (ndM M) id = (c.nd.h, c.nd.height, c.nd.work, true)) := by show _ = _; unfold ofT; rw [h1, if_neg (by omega), getD_int (ndM_at h2)]
    have cc := (HT.out.cells TR.out h2 B2.out).2.1
    clear h1 h2 h3
    go_wp2_with fail
    go_ret2
    exact ⟨by rw [AE.out]; rfl, B2.out⟩
set_option maxHeartbeats 1000000 in
set_option maxRecDepth 100000 in
theorem cthead_any (w : World) (base b mb : Nat) (M : List CNd) (id : List UInt8) (h : CtAt w base b mb M) (ht : TrL (ndM M)) (hid : id.length = 32) :
    Calls Tryz.prog 43 #[(.pointer (some ⟨b, 0, none⟩)), .agg (id.map bV).toArray] w fun e w' => e = .returned (.tuple #[.agg (hdL (ofT (ndM M) id).1).toArray, .bool (ofT (ndM M) id).2.2.2]) ∧ Below w.heap.size w w' := by
  have HT := Lib.hid h
  have TR := Lib.hid ht
  have LS := Lib.hid ht.start.1
  obtain ⟨vo, bo, hlk, hca⟩ := ct_look h ht id hid
  have LK := Lib.hid hlk
  have CA := Lib.hid hca
  have SC : Hid ((id.map bV).length = 32) := by show _ = _; rw [List.length_map]; exact hid
  obtain ⟨ci, hci⟩ : ∃ ci, ci = id.map bV := ⟨_, rfl⟩
  rw [← hci] at LK SC ⊢
  clear h ht hlk hca hid hci
  have LZ : Hid ((hdL ndZ.h).length = 68) := rfl
  go_enter Tryz.func43, Tryz.ntmps43
  go_upto_region 1 with fail
  have f0 := row_below (heap_alloc_new w (.cells ci.toArray 26 (0, 0))) ((Below.refl _ _).alloc (Nat.le_refl _) (.cells (hdL ndZ.h).toArray 28 (0, 0)))
  have f1 := heap_alloc_new (w.alloc (.cells ci.toArray 26 (0, 0))) (.cells (hdL ndZ.h).toArray 28 (0, 0))
  have bb : Below w.heap.size w ((w.alloc (.cells ci.toArray 26 (0, 0))).alloc (.cells (hdL ndZ.h).toArray 28 (0, 0))) := (((Below.refl w.heap.size w).alloc (by first | exact Nat.le_refl _ | (simp only [World.size_alloc]; omega)) (.cells ci.toArray 26 (0, 0))).alloc (by first | exact Nat.le_refl _ | (simp only [World.size_alloc]; omega)) (.cells (hdL ndZ.h).toArray 28 (0, 0)))
  simp only [World.size_alloc] at f1
  generalize hq : World.alloc _ _ = w1
  have eq : (w.alloc (.cells ci.toArray 26 (0, 0))).alloc (.cells (hdL ndZ.h).toArray 28 (0, 0)) = w1 := hq
  rw [eq] at f0 f1 bb
  obtain ⟨g4, hg4⟩ : ∃ g4, g4 = w.heap.size + 1 := ⟨_, rfl⟩
  have Gg4 : Hid (w.heap.size ≤ g4) := by show _ ≤ _; omega
  rw [← hg4] at f1 ⊢
  obtain ⟨g3, hg3⟩ : ∃ g3, g3 = w.heap.size := ⟨_, rfl⟩
  have Gg3 : Hid (w.heap.size ≤ g3) := by show _ ≤ _; omega
  rw [← hg3] at f0 ⊢
  have F3 := Lib.hid f0
  have F4 := Lib.hid f1
  have B1 := Lib.hid bb
  clear f0 f1 bb hq eq hg3 hg4
  refine wp_region_held_drew (S := (fun w' => Below w1.heap.size w1 w')) (by kernel_rfl) (Below.drew (Below.refl _ _)) (fun hHeld => ?_)
  generalize hwd : w1.drew = wd at  hHeld ⊢
  clear hwd
  refine held_take (i := 0) (v := (.pointer (some ⟨b, 0, none⟩))) rfl (by kernel_rfl) (by kernel_rfl) (by kernel_rfl) (fun _ _ _ h => h) (Or.inl ⟨by rfl, fun w' _ => by kernel_rfl⟩) hHeld ?_
  go_frame
  refine held_take (i := 1) (v := (.pointer (some ⟨b, 0, none⟩))) rfl (by kernel_rfl) (by kernel_rfl) (by kernel_rfl) (fun _ _ _ h => h) (Or.inl ⟨by rfl, fun w' _ => by kernel_rfl⟩) hHeld ?_
  go_frame
  refine held_take (i := 2) (v := (.pointer (some ⟨b, 32, none⟩))) rfl (by kernel_rfl) (by kernel_rfl) (by kernel_rfl) (fun _ _ _ h => h) (Or.inl ⟨by rfl, fun w' _ => by kernel_rfl⟩) hHeld ?_
  go_frame
  refine held_take (i := 3) (v := (.map (some mb))) rfl (by kernel_rfl) (by kernel_rfl) (by kernel_rfl) (fun _ _ _ h => h) (yieldsIf_load_one (by rfl) 71 (.tmp 11) rfl b (32) rfl _ _ (fun w' hw' => (HT.out.below (B1.out.trans (hw'.mono B1.out.size))).mcell LS.out) Tryz.underlying71 rfl) hHeld ?_
  go_frame
  refine held_take (i := 4) (v := (.agg ci.toArray)) rfl (by kernel_rfl) (by kernel_rfl) (by kernel_rfl) (fun _ _ _ h => h) (yieldsIf_load_row (by rfl) 26 (.tmp 3) rfl g3 rfl 26 ci.toArray (0, 0) _ (fun w' hw' => row_below F3.out hw') Tryz.underlying26 rfl (by show _ = some ci.length; rw [SC.out]; kernel_rfl)) hHeld ?_
  go_frame
  refine held_take (i := 5) (v := (.tuple #[vo, .bool bo])) rfl (by kernel_rfl) (by kernel_rfl) (by kernel_rfl) (fun _ _ _ h => h) (yieldsIf_lookup (by rfl) 71 (.tmp 12) (.tmp 13) true rfl _ _ _ rfl rfl (fun w' hw' => LK.out w' (B1.out.trans (hw'.mono B1.out.size)))) hHeld ?_
  go_frame
  refine held_take (i := 6) (v := (.tuple #[vo, .bool bo])) rfl (by kernel_rfl) (by kernel_rfl) (by kernel_rfl) (fun _ _ _ h => h) (Or.inl ⟨by rfl, fun w' _ => by kernel_rfl⟩) hHeld ?_
  go_frame
  refine held_take (i := 7) (v := vo) rfl (by kernel_rfl) (by kernel_rfl) (by kernel_rfl) (fun _ _ _ h => h) (Or.inl ⟨by rfl, fun w' _ => by kernel_rfl⟩) hHeld ?_
  go_frame
  refine held_take (i := 8) (v := (.bool bo)) rfl (by kernel_rfl) (by kernel_rfl) (by kernel_rfl) (fun _ _ _ h => h) (Or.inl ⟨by rfl, fun w' _ => by kernel_rfl⟩) hHeld ?_
  go_frame
  refine held_take (i := 9) (v := vo) rfl (by kernel_rfl) (by kernel_rfl) (by kernel_rfl) (fun _ _ _ h => h) (Or.inl ⟨by rfl, fun w' _ => by kernel_rfl⟩) hHeld ?_
  go_frame
  refine held_take (i := 10) (v := (.bool bo)) rfl (by kernel_rfl) (by kernel_rfl) (by kernel_rfl) (fun _ _ _ h => h) (Or.inl ⟨by rfl, fun w' _ => by kernel_rfl⟩) hHeld ?_
  go_frame
  refine wpAnyH_done (by kernel_rfl) ?_ _
  obtain ⟨v9, hv9⟩ : ∃ v9, v9 = wd := ⟨_, rfl⟩
  rw [← hv9] at  hHeld ⊢
  clear hv9
  have B2 := Lib.hid (B1.out.trans (hHeld.mono B1.out.size))
  have F4 := Lib.hid (row_below F4.out hHeld)
  clear hHeld LK F3 B1
  rcases CA.out with ⟨h1, rfl, rfl⟩ | ⟨k, c, h1, h2, h3, rfl, rfl⟩
  · have AE : Hid (ofT (ndM M) id = (ndZ.h, 0, 0, false)) := by show _ = _; unfold ofT; rw [h1]; rfl
    clear h1
    go_wp2_with ((with_reducible show wpList _ _ _ _ _ _); refine wpList_store_row rfl 28 (.tmp 4) (.tmp 19) rfl g4 Tryz.zeroCells28 rfl rfl 28 _ F4.out (by kernel_rfl) (by kernel_rfl) (by kernel_rfl) ?_; go_frame)
    refine bodyPost_ret (results_row_tmp rfl _ _ g4 28 Tryz.zeroCells28 (0, 0) _ rfl (setRow_heap _ _ _ _ _ _ F4.out) Tryz.underlying28 rfl (by kernel_rfl)) rfl ?_
    have ZH : Tryz.zeroCells28 = (hdL ndZ.h).toArray := by kernel_rfl
    rw [AE.out, ZH]
    exact ⟨rfl, below_setRow B2.out (by have := Gg4.out; omega) _⟩
  · have AE : Hid (ofT (ndM M) id = (c.nd.h, c.nd.height, c.nd.work, true)) := by show _ = _; unfold ofT; rw [h1, if_neg (by omega), getD_int (ndM_at h2)]
    have ok := TR.out.ok _ (List.mem_of_getElem? (ndM_at h2))
    have RH := Lib.hid (cn_head ((HT.out.below B2.out).node k c h2) ok.1)
    have LH : Hid ((hdL c.nd.h).length = 68) := hdL_length ok.2.1
    have LH' : Hid ((hdL c.nd.h).toArray.size = 68) := by show _ = _; rw [List.size_toArray]; exact LH.out
    have OH : Hid ((hdL c.nd.h).toArray.all (·.oneCell') = true) := all_oneCell_toArray (hdL_one' _)
    obtain ⟨ch, hch⟩ : ∃ ch, ch = hdL c.nd.h := ⟨_, rfl⟩
    have CHE := Lib.hid hch
    rw [← hch] at RH LH LH' OH
    clear h1 h2 h3 ok hch
    go_wp2_with ((with_reducible show wpList _ _ _ _ _ _); first | (refine wpList_load_mid rfl 28 (.tmp 22) rfl c.ad 32 rfl ch _ RH.out Tryz.underlying28 rfl (by rw [LH.out]; kernel_rfl) ?_; go_frame) | (refine wpList_store_row rfl 28 (.tmp 4) (.tmp 23) rfl g4 ch.toArray rfl rfl 28 _ F4.out (by rw [LH'.out]; kernel_rfl) (by rw [LH'.out]; rfl) OH.out ?_; go_frame))
    refine bodyPost_ret (results_row_tmp rfl _ _ g4 28 ch.toArray (0, 0) _ rfl (setRow_heap _ _ _ _ _ _ F4.out) Tryz.underlying28 rfl (by rw [LH'.out]; kernel_rfl)) rfl ?_
    rw [AE.out, CHE.out]
    exact ⟨rfl, below_setRow B2.out (by have := Gg4.out; omega) _⟩
set_option maxRecDepth 100000 in
theorem ctstart_any (w : World) (base b mb : Nat) (M : List CNd) (h : CtAt w base b mb M) (ht : TrL (ndM M)) :
    Calls Tryz.prog 27 #[(.pointer (some ⟨b, 0, none⟩))] w fun e w' => e = .returned (.agg (((ndM M).getD 0 ndZ).id.map bV).toArray) ∧ Below w.heap.size w w' := by
  have st := ht.start
  have R0 := Lib.hid h.start
  have LI : Hid ((((ndM M).getD 0 ndZ).id.map bV).length = 32) := by show _ = _; rw [List.length_map]; exact st.1
  have LI' : Hid ((((ndM M).getD 0 ndZ).id.map bV).toArray.size = 32) := by show _ = _; rw [List.size_toArray]; exact LI.out
  have OI : Hid ((((ndM M).getD 0 ndZ).id.map bV).toArray.all (·.oneCell') = true) := bV_one _
  obtain ⟨ci, hci⟩ : ∃ ci, ci = ((ndM M).getD 0 ndZ).id.map bV := ⟨_, rfl⟩
  rw [← hci] at R0 LI LI' OI ⊢
  clear h ht st hci
  go_enter Tryz.func27, Tryz.ntmps27
  go_upto_region 1 with fail
  have f0 := heap_alloc_new w (.cells (List.replicate 32 (bV 0)).toArray 26 (0, 0))
  have bb : Below w.heap.size w (w.alloc (.cells (List.replicate 32 (bV 0)).toArray 26 (0, 0))) := ((Below.refl w.heap.size w).alloc (by first | exact Nat.le_refl _ | (simp only [World.size_alloc]; omega)) (.cells (List.replicate 32 (bV 0)).toArray 26 (0, 0)))
  generalize hq : World.alloc _ _ = w1
  have eq : w.alloc (.cells (List.replicate 32 (bV 0)).toArray 26 (0, 0)) = w1 := hq
  rw [eq] at f0 bb
  obtain ⟨g2, hg2⟩ : ∃ g2, g2 = w.heap.size := ⟨_, rfl⟩
  have Gg2 : Hid (w.heap.size ≤ g2) := by show _ ≤ _; omega
  rw [← hg2] at f0 ⊢
  have F2 := Lib.hid f0
  have B1 := Lib.hid bb
  clear f0 bb hq eq hg2
  have R0 := Lib.hid (range_below R0.out B1.out)
  go_wp2_with ((with_reducible show wpList _ _ _ _ _ _); first | (refine wpList_load_mid rfl 26 (.tmp 5) rfl b 0 rfl ci _ R0.out Tryz.underlying26 rfl (by rw [LI.out]; kernel_rfl) ?_; go_frame) | (refine wpList_store_row rfl 26 (.tmp 2) (.tmp 6) rfl g2 ci.toArray rfl rfl 26 _ F2.out (by rw [LI'.out]; kernel_rfl) (by rw [LI'.out]; rfl) OI.out ?_; go_frame))
  refine bodyPost_ret (results_cell_row rfl _ _ g2 26 ci.toArray (0, 0) _ rfl (setRow_heap _ _ _ _ _ _ F2.out) Tryz.underlying26 rfl (by rw [LI'.out]; kernel_rfl)) rfl ⟨rfl, below_setRow B1.out (by have := Gg2.out; omega) _⟩
end Go.Proofs.YtdhcjaflbfpalaaGreatDoor.Sha

/-
  The program's tree begins: New. New memory, no more. Conditions: a header as the model has it; the table of the rounds' words is there.
-/
namespace Go.Proofs.YtdhcjaflbfpalaaGreatDoor.Sha
open Go Go.RowKit
theorem wp_make_gm {P : Program} {op : Oper} {a : Act} {w : World} {K : Act → World → Prop} {Q : Exit → Act → World → Prop} (mT : TypeId) (ho : op.op = Op.makeMap mT none) (hK : K (a.put op.dst (.map (some w.heap.size))) (w.alloc (.map #[] 0))) : op.wp P a w K Q := by
  unfold Oper.wp
  simp [execOp, ho, run_makeMap, Result.andThen]
  exact hK
theorem mp_made {α β : Type} {kf : α → Value} {vf : β → Value} {ok : α → Prop} {w : World} {b : Nat} (h : w.heap[b]? = some (.map #[] 0)) : MpAt kf vf ok w b [] := ⟨#[], 0, h, MapKept.stamped_empty 0, rfl, by simp⟩
theorem wp_insert_gm {α β : Type} [DecidableEq α] {kT vT mT : TypeId} {kf : α → Value} {vf : β → Value} {ok : α → Prop} {z : β} {w : World} {b : Nat} {l : List (α × β)} (M : MTy α β kT vT mT kf vf ok z) {op : Oper} {a : Act} {K : Act → World → Prop} {Q : Exit → Act → World → Prop} (x y q : Operand) (ho : op.op = Op.insert mT x y q)
    (p : α) (hp : ok p) (c : β) (hx : a.eval x = .map (some b)) (hy : a.eval y = kf p) (hz : a.eval q = vf c) (hm : MpAt kf vf ok w b l)
    (hK : ∀ w', MpAt kf vf ok w' b (putG l p c) → w.grownBy w' (some b) → K (a.put op.dst undef) w') : op.wp Tryz.prog a w K Q := by
  obtain ⟨w', hrun, r1, r2⟩ := gm_put M hm p hp c
  unfold Oper.wp
  simp [execOp, ho, hx, hy, hz, hrun, Result.andThen]
  exact hK w' r1 r2
theorem built_cn (ps : List (Nat × Value)) (x : TNd) (p : Option Nat) (hx : x.id.length = 32) (hh : HdOk x.h) (h : ps = [(0, .agg (x.id.map bV).toArray), (1, .agg (hdL x.h).toArray), (2, .int .i64 x.height), (3, .int .u64 (x.work : Int)), (4, nptr p)]) :
    Tryz.prog.built 70 ps = some (cnL x p (.slice none 0 0)).toArray := by
  subst h
  have hz : ∀ parts, Tryz.prog.built 70 parts = Instr.fill ([(0, 32), (32, 68), (100, 1), (101, 1), (102, 1), (103, 1)].toArray[·]?) (cnL ndZ none (.slice none 0 0)).toArray parts := fun parts => by kernel_rfl
  have l1 : (x.id.map bV).length = 32 := by simp [hx]
  have l2 : (hdL x.h).length = 68 := hdL_length hh
  obtain ⟨A, B, hA, hB, hz2⟩ : ∃ A B : List Value, A.length = 32 ∧ B.length = 68 ∧ cnL ndZ none (.slice none 0 0) = [] ++ (A ++ (B ++ [.int .i64 0, .int .u64 0, .pointer none, .slice none 0 0])) := ⟨ndZ.id.map bV, hdL ndZ.h, rfl, rfl, rfl⟩
  obtain ⟨i, hi⟩ : ∃ i, i = x.id.map bV := ⟨_, rfl⟩
  obtain ⟨j, hj⟩ : ∃ j, j = hdL x.h := ⟨_, rfl⟩
  have hx2 : cnL x p (.slice none 0 0) = i ++ (j ++ [.int .i64 x.height, .int .u64 (x.work : Int), nptr p, .slice none 0 0]) := by rw [hi, hj]; rfl
  have hpc : (nptr p).cells = [nptr p].toArray := by cases p <;> rfl
  rw [← hi] at l1 ⊢
  rw [← hj] at l2 ⊢
  rw [hx2]
  clear hx2 hi hj
  rw [hz, hz2, fill_mid _ 0 0 (Value.agg i.toArray) i [] A _ _ rfl (by rw [l1]; rfl) rfl (by rw [l1, hA]), List.nil_append,
    fill_mid _ 1 32 (Value.agg j.toArray) j i B _ _ rfl (by rw [l2]; rfl) l1 (by rw [l2, hB])]
  have e2 : i ++ (j ++ [Value.int .i64 0, Value.int .u64 0, Value.pointer none, Value.slice none 0 0]) = (i ++ j) ++ ([Value.int .i64 0] ++ [Value.int .u64 0, Value.pointer none, Value.slice none 0 0]) := by simp
  rw [e2, fill_mid _ 2 100 (Value.int .i64 x.height) [Value.int .i64 x.height] (i ++ j) [Value.int .i64 0] _ _ rfl rfl (by rw [List.length_append, l1, l2]) rfl]
  have e3 : (i ++ j) ++ ([Value.int .i64 x.height] ++ [Value.int .u64 0, Value.pointer none, Value.slice none 0 0]) = (i ++ j ++ [Value.int .i64 x.height]) ++ ([Value.int .u64 0] ++ [Value.pointer none, Value.slice none 0 0]) := by simp
  rw [e3, fill_mid _ 3 101 (Value.int .u64 (x.work : Int)) [Value.int .u64 (x.work : Int)] (i ++ j ++ [Value.int .i64 x.height]) [Value.int .u64 0] _ _ rfl rfl (by simp [l1, l2]) rfl]
  have e4 : (i ++ j ++ [Value.int .i64 x.height]) ++ ([Value.int .u64 (x.work : Int)] ++ [Value.pointer none, Value.slice none 0 0]) = (i ++ j ++ [Value.int .i64 x.height, Value.int .u64 (x.work : Int)]) ++ ([Value.pointer none] ++ [Value.slice none 0 0]) := by simp
  rw [e4, fill_mid _ 4 102 (nptr p) [nptr p] (i ++ j ++ [Value.int .i64 x.height, Value.int .u64 (x.work : Int)]) [Value.pointer none] _ _ hpc rfl (by simp [l1, l2]) rfl]
  show some _ = some _
  congr 2
  simp
theorem built_cn0 (x : TNd) (hx : x.id.length = 32) (hh : HdOk x.h) (h0 : x.height = 0) :
    Tryz.prog.built 70 [(0, .agg (x.id.map bV).toArray), (1, .agg (hdL x.h).toArray), (3, .int .u64 (x.work : Int))] = some (cnL x none (.slice none 0 0)).toArray := by
  have hz : ∀ parts, Tryz.prog.built 70 parts = Instr.fill ([(0, 32), (32, 68), (100, 1), (101, 1), (102, 1), (103, 1)].toArray[·]?) (cnL ndZ none (.slice none 0 0)).toArray parts := fun parts => by kernel_rfl
  have l1 : (x.id.map bV).length = 32 := by simp [hx]
  have l2 : (hdL x.h).length = 68 := hdL_length hh
  obtain ⟨A, B, hA, hB, hz2⟩ : ∃ A B : List Value, A.length = 32 ∧ B.length = 68 ∧ cnL ndZ none (.slice none 0 0) = [] ++ (A ++ (B ++ [.int .i64 0, .int .u64 0, .pointer none, .slice none 0 0])) := ⟨ndZ.id.map bV, hdL ndZ.h, rfl, rfl, rfl⟩
  obtain ⟨i, hi⟩ : ∃ i, i = x.id.map bV := ⟨_, rfl⟩
  obtain ⟨j, hj⟩ : ∃ j, j = hdL x.h := ⟨_, rfl⟩
  have hx2 : cnL x none (.slice none 0 0) = i ++ (j ++ [.int .i64 0, .int .u64 (x.work : Int), .pointer none, .slice none 0 0]) := by rw [hi, hj, ← h0]; rfl
  rw [← hi] at l1 ⊢
  rw [← hj] at l2 ⊢
  rw [hx2]
  clear hx2 hi hj
  rw [hz, hz2, fill_mid _ 0 0 (Value.agg i.toArray) i [] A _ _ rfl (by rw [l1]; rfl) rfl (by rw [l1, hA]), List.nil_append,
    fill_mid _ 1 32 (Value.agg j.toArray) j i B _ _ rfl (by rw [l2]; rfl) l1 (by rw [l2, hB])]
  have e3 : i ++ (j ++ [Value.int .i64 0, Value.int .u64 0, Value.pointer none, Value.slice none 0 0]) = (i ++ j ++ [Value.int .i64 0]) ++ ([Value.int .u64 0] ++ [Value.pointer none, Value.slice none 0 0]) := by simp
  rw [e3, fill_mid _ 3 101 (Value.int .u64 (x.work : Int)) [Value.int .u64 (x.work : Int)] (i ++ j ++ [Value.int .i64 0]) [Value.int .u64 0] _ _ rfl rfl (by simp [l1, l2]) rfl]
  show some _ = some _
  congr 2
  simp
theorem built_tree (ci : List Value) (m : Nat) (h : ci.length = 32) : Tryz.prog.built 73 [(0, .agg ci.toArray), (1, .map (some m))] = some (ci ++ [Value.map (some m)]).toArray := by
  have hz : ∀ parts, Tryz.prog.built 73 parts = Instr.fill ([(0, 32), (32, 1)].toArray[·]?) ([] ++ (List.replicate 32 (bV 0) ++ [Value.map none])).toArray parts := fun parts => by kernel_rfl
  rw [hz, fill_mid _ 0 0 (Value.agg ci.toArray) ci [] (List.replicate 32 (bV 0)) _ _ rfl (by rw [h]; rfl) rfl (by rw [h]; rfl), List.nil_append]
  have e : ci ++ [Value.map none] = ci ++ ([Value.map none] ++ []) := by simp
  rw [e, fill_mid _ 1 32 (Value.map (some m)) [Value.map (some m)] ci [Value.map none] _ _ rfl rfl h rfl]
  rfl
theorem CtAt.first {w : World} {base b mb g : Nat} {hd : THd} (h1 : w.heap[b]? = some (.cells ((hdId hd).map bV ++ [Value.map (some mb)]).toArray 73 (0, 0))) (h2 : MpAt hK nptr (fun h => h.length = 32) w mb [(hdId hd, some g)])
    (h3 : w.heap[g]? = some (.cells (cnL (stT hd) none (.slice none 0 0)).toArray 70 (0, 0))) (h4 : base ≤ b ∧ base ≤ mb ∧ base ≤ g) : CtAt w base b mb [⟨stT hd, g, .slice none 0 0⟩] := by
  have one : ∀ (i : Nat) (c : CNd), [(⟨stT hd, g, .slice none 0 0⟩ : CNd)][i]? = some c → i = 0 ∧ c = ⟨stT hd, g, .slice none 0 0⟩ := fun i c h => by
    cases i with
    | zero => exact ⟨rfl, by injection h with h; exact h.symm⟩
    | succ i => cases h
  refine ⟨h1, h2, fun i c hc => ?_, fun i c hc => ?_, fun i j c d hc hd' hij => ?_, h4.1, h4.2.1, fun c hc => ?_⟩
  · obtain ⟨rfl, rfl⟩ := one i c hc
    exact h3
  · obtain ⟨rfl, rfl⟩ := one i c hc
    exact RwOwn.nil 1 _ base w
  · obtain ⟨rfl, _⟩ := one i c hc
    obtain ⟨rfl, _⟩ := one j d hd'
    exact absurd rfl hij
  · rcases List.mem_singleton.1 hc with rfl
    exact h4.2.2
theorem putG_nil {β : Type} (a : List UInt8) (c : β) : putG [] a c = [(a, c)] := by unfold putG; rw [getG_nil]; rfl
set_option maxHeartbeats 2000000 in
set_option maxRecDepth 100000 in
theorem ctnew_any (w : World) (hd : THd) (hh : HdOk hd) (hk : KTab w) :
    Calls Tryz.prog 8 #[.agg (hdL hd).toArray] w fun e w' => ∃ b mb g, e = .returned (.pointer (some ⟨b, 0, none⟩)) ∧ CtAt w' w.heap.size b mb [⟨stT hd, g, .slice none 0 0⟩] ∧ Below w.heap.size w w' := by
  have RI : Hid (∀ W, Below w.heap.size w W → Calls Tryz.prog 32 #[.agg (hdL hd).toArray] W fun e w' => e = .returned (.agg ((hdId hd).map bV).toArray) ∧ Below W.heap.size W w') := fun W hW => id_hd hd hh W (hk.below hW)
  have LC : Hid ((hdL hd).length = 68) := hdL_length hh
  have CW : Hid (∀ (W : World) (g : Nat), W.heap[g]? = some (.cells (hdL hd).toArray 28 (0, 0)) → W.cell? ⟨g, 66, none⟩ = some (.int .u32 (hd.work : Int))) := fun W g q => ((HdBox.mk q).cells hh).2.2.1
  have HW : Hid (hd.work ≤ 4294967295) := hh.2.2.2.2.1
  have LX0 : Hid ((cnL (stT hd) none (.slice none 0 0)).length = 104) := cnL_length (hdId_length hd) hh
  have BT : Hid (Tryz.prog.built 70 [(0, .agg ((hdId hd).map bV).toArray), (1, .agg (hdL hd).toArray), (3, .int .u64 (hd.work : Int))] = some (cnL (stT hd) none (.slice none 0 0)).toArray) := built_cn0 (stT hd) (hdId_length hd) hh rfl
  have BTR : Hid (∀ m, Tryz.prog.built 73 [(0, .agg ((hdId hd).map bV).toArray), (1, .map (some m))] = some ((hdId hd).map bV ++ [Value.map (some m)]).toArray) := fun m => built_tree _ m (by rw [List.length_map]; exact hdId_length hd)
  have FI : Hid (∀ (w : World) (base b mb g : Nat), w.heap[b]? = some (.cells ((hdId hd).map bV ++ [Value.map (some mb)]).toArray 73 (0, 0)) → MpAt hK nptr (fun h => h.length = 32) w mb [(hdId hd, some g)] → w.heap[g]? = some (.cells (cnL (stT hd) none (.slice none 0 0)).toArray 70 (0, 0)) → (base ≤ b ∧ base ≤ mb ∧ base ≤ g) → CtAt w base b mb [⟨stT hd, g, .slice none 0 0⟩]) := fun w base b mb g h1 h2 h3 h4 => CtAt.first h1 h2 h3 h4
  obtain ⟨cx, hcx⟩ : ∃ cx, cx = cnL (stT hd) none (.slice none 0 0) := ⟨_, rfl⟩
  rw [← hcx] at BT LX0 FI
  obtain ⟨id, hid⟩ : ∃ id, id = hdId hd := ⟨_, rfl⟩
  have LID : Hid (id.length = 32) := by show _ = _; rw [hid]; exact hdId_length hd
  rw [← hid] at RI BT BTR FI
  have SCI : Hid ((id.map bV).toArray.size = 32) := by show _ = _; rw [List.size_toArray, List.length_map]; exact LID.out
  have OCI : Hid ((id.map bV).toArray.all (·.oneCell') = true) := bV_one _
  have LCI : Hid ((id.map bV).length = 32) := by show _ = _; rw [List.length_map]; exact LID.out
  obtain ⟨ci, hci⟩ : ∃ ci, ci = id.map bV := ⟨_, rfl⟩
  have CIE := Lib.hid hci
  rw [← hci] at RI BT SCI OCI LCI BTR FI
  obtain ⟨cs, hcs⟩ : ∃ cs, cs = hdL hd := ⟨_, rfl⟩
  rw [← hcs] at LC CW RI BT ⊢
  clear hh hk hid hci hcs hcx
  go_enter Tryz.func8, Tryz.ntmps8
  go_upto_region 1 with fail
  have f0 := heap_alloc_new w (.cells cs.toArray 28 (0, 0))
  have bb : Below w.heap.size w (w.alloc (.cells cs.toArray 28 (0, 0))) := ((Below.refl w.heap.size w).alloc (by first | exact Nat.le_refl _ | (simp only [World.size_alloc]; omega)) (.cells cs.toArray 28 (0, 0)))
  generalize hq : World.alloc _ _ = w1
  have eq : w.alloc (.cells cs.toArray 28 (0, 0)) = w1 := hq
  rw [eq] at f0 bb
  obtain ⟨g1, hg1⟩ : ∃ g1, g1 = w.heap.size := ⟨_, rfl⟩
  have Gg1 : Hid (w.heap.size ≤ g1) := by show _ ≤ _; omega
  rw [← hg1] at f0 ⊢
  have F1 := Lib.hid f0
  have B1 := Lib.hid bb
  clear f0 bb hq eq hg1
  go_wp2_with ((with_reducible show wpList _ _ _ _ _ _); (refine wpList_load_row rfl 28 (.tmp 1) rfl g1 rfl 28 cs.toArray (0, 0) _ F1.out Tryz.underlying28 rfl (by show _ = some cs.length; rw [LC.out] <;> kernel_rfl) ?_; go_frame))
  refine (RI.out w1 B1.out).mono ?_
  rintro e w2 ⟨rfl, bb⟩
  have F1 := Lib.hid (row_below F1.out bb)
  have B1 := Lib.hid (B1.out.trans (bb.mono B1.out.size))
  clear bb RI
  go_upto_region 2 with ((with_reducible show wpList _ _ _ _ _ _); (refine wpList_store_row rfl 26 (.tmp 3) (.tmp 6) rfl w2.heap.size ci.toArray rfl rfl 26 _ (heap_alloc_new _ _) (by rw [SCI.out]; kernel_rfl) (by rw [SCI.out]; rfl) OCI.out ?_; go_frame))
  obtain ⟨_, f2, f3, f4⟩ := fill_setup (Below.refl w2.heap.size w2) (List.replicate 32 (bV 0)).toArray ci.toArray 26
  generalize hqw3 : World.setRow _ _ _ = w3
  have ew3 : World.setRow (w2.alloc (.cells (List.replicate 32 (bV 0)).toArray 26)) w2.heap.size ci.toArray = w3 := hqw3
  rw [ew3] at f2 f3 f4
  obtain ⟨g3, hg3⟩ : ∃ g3, g3 = w2.heap.size := ⟨_, rfl⟩
  rw [← hg3] at f2 ⊢
  have F3 := Lib.hid f2
  have Ng3 : Hid (w2.heap.size ≤ g3) := by show _ ≤ _; rw [hg3]; exact Nat.le_refl _
  have F1 := Lib.hid (row_below F1.out f4)
  have B1 := Lib.hid (B1.out.trans (f4.mono B1.out.size))
  clear f2 f3 f4 hqw3 ew3 hg3
  have c66 := CW.out _ _ F1.out
  have w64 : IntKind.u64.wrap (hd.work : Int) = (hd.work : Int) := u64_stays (by have := HW.out; omega)
  go_upto_region 3 with ((with_reducible show wpList _ _ _ _ _ _); first | (refine wpList_load_row rfl 26 (.tmp 3) rfl g3 rfl 26 ci.toArray (0, 0) _ F3.out Tryz.underlying26 rfl (by show _ = some ci.length; rw [LCI.out] <;> kernel_rfl) ?_; go_frame) | (refine wpList_load_row rfl 28 (.tmp 1) rfl g1 rfl 28 cs.toArray (0, 0) _ F1.out Tryz.underlying28 rfl (by show _ = some cs.length; rw [LC.out] <;> kernel_rfl) ?_; go_frame) | (refine wpList_buildTo rfl 70 _ rfl _ rfl cx.toArray (by rw [← BT.out]; kernel_rfl) ?_; go_frame))
  clear c66 w64
  have f0 := heap_alloc_new w3 (.cells cx.toArray 70 (0, 0))
  have bb : Below w3.heap.size w3 (w3.alloc (.cells cx.toArray 70 (0, 0))) := ((Below.refl w3.heap.size w3).alloc (by first | exact Nat.le_refl _ | (simp only [World.size_alloc]; omega)) (.cells cx.toArray 70 (0, 0)))
  generalize hq : World.alloc _ _ = w4
  have eq : w3.alloc (.cells cx.toArray 70 (0, 0)) = w4 := hq
  rw [eq] at f0 bb
  obtain ⟨g4, hg4⟩ : ∃ g4, g4 = w3.heap.size := ⟨_, rfl⟩
  have Gg4 : Hid (w3.heap.size ≤ g4) := by show _ ≤ _; omega
  rw [← hg4] at f0 ⊢
  have F4 := Lib.hid f0
  have B2 := Lib.hid bb
  clear f0 bb hq eq hg4
  have F3 := Lib.hid (row_below F3.out B2.out)
  have B3 := Lib.hid (B1.out.trans (B2.out.mono B1.out.size))
  have S3 : Hid (w.heap.size ≤ w3.heap.size) := B1.out.size
  clear B1 B2 F1
  refine wp_region_held_drew (S := (fun w' => Below w4.heap.size w4 w')) (by kernel_rfl) (Below.drew (Below.refl _ _)) (fun hHeld => ?_)
  generalize hwd : w4.drew = wd at  hHeld ⊢
  clear hwd
  refine held_take (i := 0) (v := (.agg ci.toArray)) rfl (by kernel_rfl) (by kernel_rfl) (by kernel_rfl) (fun _ _ _ h => h) (yieldsIf_load_row (by rfl) 26 (.tmp 3) rfl g3 rfl 26 ci.toArray (0, 0) _ (fun w' hw' => row_below F3.out hw') Tryz.underlying26 rfl (by show _ = some ci.length; rw [LCI.out]; kernel_rfl)) hHeld ?_
  go_frame
  refine held_take (i := 2) (v := (.agg ci.toArray)) rfl (by kernel_rfl) (by kernel_rfl) (by kernel_rfl) (fun _ _ _ h => h) (yieldsIf_load_row (by rfl) 26 (.tmp 3) rfl g3 rfl 26 ci.toArray (0, 0) _ (fun w' hw' => row_below F3.out hw') Tryz.underlying26 rfl (by show _ = some ci.length; rw [LCI.out]; kernel_rfl)) hHeld ?_
  go_frame
  refine held_take (i := 3) (v := (.pointer (some ⟨g4, 0, none⟩))) rfl (by kernel_rfl) (by kernel_rfl) (by kernel_rfl) (fun _ _ _ h => h) (Or.inl ⟨by rfl, fun w' _ => by kernel_rfl⟩) hHeld ?_
  go_frame
  refine wpAnyH_ready (rs := [1]) (by kernel_rfl) (by simp) (held_cons rfl (fun K hK => ?_) AllReadyH.nil)
  rw [if_pos (by rfl)]
  refine wp_make_gm 71 rfl ?_
  have nf := heap_alloc_new wd (.map #[] 0)
  have bb := (Below.refl wd.heap.size wd).alloc (Nat.le_refl _) (.map #[] 0)
  obtain ⟨gv1, hgv1⟩ : ∃ g, g = wd.heap.size := ⟨_, rfl⟩
  generalize hqv1 : World.alloc _ _ = v1
  have ev1 : wd.alloc (.map #[] 0) = v1 := hqv1
  rw [ev1] at nf bb
  rw [← hgv1] at nf ⊢
  have MF := Lib.hid nf
  have GMF : Hid (w4.heap.size ≤ gv1) := by show _ ≤ _; rw [hgv1]; exact hHeld.size
  have hv1 := hHeld.trans (bb.mono hHeld.size)
  clear nf bb hqv1 ev1 hgv1 hHeld
  go_frame
  refine hK.out _ _ hv1 (fun hHeld => ?_)
  clear hK K hv1
  refine wpAnyH_ready (rs := [4]) (by kernel_rfl) (by simp) (held_cons rfl (fun K hK => ?_) AllReadyH.nil)
  rw [if_pos (by rfl)]
  refine wp_insert_gm mty_nodes (.tmp 15) (.tmp 16) (.tmp 17) rfl id LID.out (some g4) rfl (by show Value.agg ci.toArray = Sha.hK id; rw [CIE.out]; rfl) rfl (mp_made MF.out) ?_
  intro v2 q1 q2
  rw [putG_nil] at q1
  have MP := Lib.hid q1
  have hv2 := hHeld.grown q2 hHeld.size (fun k hk => by cases hk; exact GMF.out)
  clear q1 q2 hHeld MF
  go_frame
  refine hK.out _ _ hv2 (fun hHeld => ?_)
  clear hK K hv2
  refine held_take (i := 5) (v := (Value.map (some gv1))) rfl (by kernel_rfl) (by kernel_rfl) (by kernel_rfl) (fun _ _ _ h => h) (Or.inl ⟨by rfl, fun w' _ => by kernel_rfl⟩) hHeld ?_
  go_frame
  refine held_take (i := 6) (v := (.agg (ci ++ [(Value.map (some gv1))]).toArray)) rfl (by kernel_rfl) (by kernel_rfl) (by kernel_rfl) (fun _ _ _ h => h) (yieldsIf_build (by rfl) 73 _ rfl [(0, .agg ci.toArray), (1, (Value.map (some gv1)))] (by kernel_rfl) _ (BTR.out _)) hHeld ?_
  go_frame
  refine wpAnyH_ready (rs := [7]) (by kernel_rfl) (by simp) (held_cons rfl (fun K hK => ?_) AllReadyH.nil)
  go_simp
  have nf := heap_alloc_new v2 (.cells (ci ++ [(Value.map (some gv1))]).toArray 73 (0, 0))
  have bb := (Below.refl v2.heap.size v2).alloc (Nat.le_refl _) (.cells (ci ++ [(Value.map (some gv1))]).toArray 73 (0, 0))
  obtain ⟨gv3, hgv3⟩ : ∃ g, g = v2.heap.size := ⟨_, rfl⟩
  have GTB : Hid (w4.heap.size ≤ gv3) := by show _ ≤ _; rw [hgv3]; exact hHeld.size
  generalize hqv3 : World.alloc _ _ = v3
  have ev3 : v2.alloc (.cells (ci ++ [(Value.map (some gv1))]).toArray 73 (0, 0)) = v3 := hqv3
  rw [ev3] at nf bb
  rw [← hgv3] at nf ⊢
  have TB := Lib.hid nf
  have MP := Lib.hid (MP.out.below bb)
  have hv3 := hHeld.trans (bb.mono hHeld.size)
  clear nf bb hqv3 ev3 hgv3 hHeld
  refine hK.out _ _ hv3 (fun hHeld => ?_)
  clear hK K hv3
  refine held_take (i := 8) (v := (.pointer (some ⟨gv3, 0, none⟩))) rfl (by kernel_rfl) (by kernel_rfl) (by kernel_rfl) (fun _ _ _ h => h) (Or.inl ⟨by rfl, fun w' _ => by kernel_rfl⟩) hHeld ?_
  go_frame
  refine wpAnyH_done (by kernel_rfl) ?_ _
  have F4 := Lib.hid (row_below F4.out hHeld)
  have BE := Lib.hid (B3.out.trans (hHeld.mono B3.out.size))
  clear hHeld F3
  go_wp2_with fail
  go_ret
  exact ⟨_, _, _, rfl, FI.out _ _ _ _ _ TB.out MP.out F4.out ⟨by have := GTB.out; have := B3.out.size; omega, by have := GMF.out; have := B3.out.size; omega, by have := Gg4.out; have := S3.out; omega⟩, BE.out⟩
end Go.Proofs.YtdhcjaflbfpalaaGreatDoor.Sha
