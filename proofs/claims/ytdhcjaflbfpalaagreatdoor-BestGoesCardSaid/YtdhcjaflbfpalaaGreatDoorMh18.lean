/-
  Texts of this proof joined into one file: BtHeap, BtBad, BtNew. What each holds, and under which conditions, its own first sentence tells.
-/
import Derived.Test.YtdhcjaflbfpalaaGreatDoorMh17
import Derived.Test.YtdhcjaflbfpalaaGreatDoorMh10
import Derived.Test.YtdhcjaflbfpalaaGreatDoorMh08
import Derived.Test.YtdhcjaflbfpalaaGreatDoorMh16
/-
  The row of ranks as the library's heap sees it: Len, Less, Swap, Push, Pop. Conditions: the marks lie where the pointer says; no more than a million ranks.
-/
namespace Go.Proofs.YtdhcjaflbfpalaaGreatDoor.Sha
open Go Go.RowKit
open Go.Sort (swp)
section
variable {w w' w'' : World} {base b tb bm mm : Nat} {lv lv' : Value} {B Mt : IdSet} {d d' : Array Rk}
theorem HtR.own {v : Value} {n : Nat} {xs : List Value} (ho : w.ownsRow base 78 33 v n xs) (hg : w.grownBy w' v.ownBlock) : HtR base w w' := Kps.grown hg fun j _ hf e => by
  obtain ⟨cs, hc⟩ := own_row ho e.symm
  rcases hf with h | h
  · have := (ho.lt j e.symm).1; omega
  · exact (h _ _ _ hc).2 rfl
theorem HtR.box {cs : Array Value} {fr : Nat × Nat} (hb : base ≤ b) (hc : w.heap[b]? = some (.cells cs 83 fr)) (hg : w.grownBy w' (some b)) : HtR base w w' := Kps.grown hg fun j _ hf e => by
  have e' : j = b := Option.some.inj e
  rw [e'] at hf
  rcases hf with h | h
  · omega
  · exact (h _ _ _ hc).1 rfl
/-- The row has turned, the box's slice not yet. -/
theorem MkAt.turn (h : MkAt w base b tb bm mm lv B Mt d) (hg : w.grownBy w' lv.ownBlock) : w'.heap[b]? = some (.cells (mkL tb bm mm lv).toArray 83 (0, 0)) ∧ MpAt hK unV (fun h => h.length = 32) w' bm B ∧ MpAt hK unV (fun h => h.length = 32) w' mm Mt :=
  ⟨row_far h.box hg h.rowne, h.bad.kps (Kps.grown (F := fun j => some j ≠ lv.ownBlock) hg fun _ _ hf => hf) (fun e => own_nemap h.bad h.row.1 e.symm), h.met.kps (Kps.grown (F := fun j => some j ≠ lv.ownBlock) hg fun _ _ hf => hf) (fun e => own_nemap h.met h.row.1 e.symm)⟩
/-- The row has turned in its place. -/
theorem MkAt.swapped (h : MkAt w base b tb bm mm lv B Mt d) (hg : w.grownBy w' lv.ownBlock) (hr : RwOwn 33 78 base w' lv (d'.toList.map rkL)) : MkAt w' base b tb bm mm lv B Mt d' :=
  ⟨(h.turn hg).1, (h.turn hg).2.1, (h.turn hg).2.2, hr, h.ne, h.lo⟩
/-- Another slice in the box. -/
theorem MkAt.boxed (h1 : w.heap[b]? = some (.cells (mkL tb bm mm lv).toArray 83 (0, 0))) (h2 : MpAt hK unV (fun h => h.length = 32) w bm B) (h3 : MpAt hK unV (fun h => h.length = 32) w mm Mt) (h4 : RwOwn 33 78 base w lv' (d'.toList.map rkL)) (h5 : bm ≠ mm) (h6 : base ≤ b ∧ base ≤ bm ∧ base ≤ mm)
    (hb : w'.heap[b]? = some (.cells (mkL tb bm mm lv').toArray 83 (0, 0))) (hg : w.grownBy w' (some b)) : MkAt w' base b tb bm mm lv' B Mt d' := by
  have hk : Kps (fun j => j ≠ b) w w' := Kps.grown hg fun j _ hf e => hf (Option.some.inj e)
  exact ⟨hb, h2.kps hk (fun e => h2.ne' h1 e.symm), h3.kps hk (fun e => h3.ne' h1 e.symm), ⟨own_kpsB h4.1 hk (fun g hg' e => own_ne' h4.1 h1 (by decide) (by rw [hg', e])), h4.2⟩, h5, h6⟩
end
def RkI (base b tb bm mm : Nat) (B Mt : IdSet) (d : Array Rk) (W : World) : Prop := base ≤ W.heap.size ∧ d.size ≤ 1048576 ∧ ∃ lv, MkAt W base b tb bm mm lv B Mt d
def rkV (r : Rk) : Value := .iface 78 (.agg (rkL r).toArray)
theorem info_rk : (Tryz.prog.info? 78).map (fun i => (i.zero, i.size, i.bytes)) = some (some (.agg (Value.int .u64 0 :: List.replicate 32 (bV 0)).toArray), 33, 40) := by kernel_rfl
set_option maxRecDepth 100000 in
theorem bklen_any (W : World) (base b tb bm mm : Nat) (B Mt : IdSet) (d : Array Rk) (h : RkI base b tb bm mm B Mt d W) :
    Calls Tryz.prog 142 #[(.pointer (some ⟨b, 3, none⟩))] W fun e w' => e = .returned (.int .i64 (d.size : Int)) ∧ RkI base b tb bm mm B Mt d w' ∧ HtR base W w' := by
  obtain ⟨hbs, hsz, lv, hm⟩ := h
  obtain ⟨sp, cap, rfl⟩ := (hm.row.at (by decide)).shape
  rw [rk_len] at hm
  have HM := Lib.hid hm
  have c3 := hm.cells.2.2.2.1
  have HB := Lib.hid hbs
  have HZ := Lib.hid hsz
  clear hm hbs hsz
  go_enter Tryz.func142, Tryz.ntmps142
  go_wp2
  go_ret
  exact ⟨rfl, ⟨HB.out, HZ.out, _, HM.out⟩, HtR.refl⟩
set_option maxHeartbeats 2000000 in
set_option maxRecDepth 100000 in
theorem bkless_any (W : World) (base b tb bm mm : Nat) (B Mt : IdSet) (d : Array Rk) (i j : Nat) (h : RkI base b tb bm mm B Mt d W) (hi : i < d.size) (hj : j < d.size) :
    Calls Tryz.prog 143 #[(.pointer (some ⟨b, 3, none⟩)), .int .i64 (i : Int), .int .i64 (j : Int)] W fun e w' => e = .returned (.bool (overK d[i]! d[j]!)) ∧ RkI base b tb bm mm B Mt d w' ∧ HtR base W w' := by
  obtain ⟨hbs, hsz, lv, hm⟩ := h
  obtain ⟨g, cap, rfl, hgb, gb, gm, gn, hcap⟩ := hm.shape (by omega)
  have HM := Lib.hid hm
  have HB := Lib.hid hbs
  have HZ := Lib.hid hsz
  have CE := Lib.hid hm.cells
  have RI : Hid (W.rangeAt g (i * 33) (rkL d[i]!)) := by
    obtain ⟨b', o', e, hg⟩ := (hm.row.at (by decide)).get (by omega)
    cases e
    have := hg i _ (rk_at hi)
    rwa [Nat.zero_add] at this
  have RJ : Hid (W.rangeAt g (j * 33) (rkL d[j]!)) := by
    obtain ⟨b', o', e, hg⟩ := (hm.row.at (by decide)).get (by omega)
    cases e
    have := hg j _ (rk_at hj)
    rwa [Nat.zero_add] at this
  have LI : Hid ((rkL d[i]!).length = 33) := rkL_length _
  have LJ : Hid ((rkL d[j]!).length = 33) := rkL_length _
  obtain ⟨q, hq⟩ : ∃ q, q = overK d[i]! d[j]! := ⟨_, rfl⟩
  have OV : Hid (∀ W, Calls Tryz.prog 33 #[.agg (rkL d[i]!).toArray, .agg (rkL d[j]!).toArray] W fun e w' => e = .returned (.bool q) ∧ Below W.heap.size W w') := fun W => by rw [hq]; exact bkover_any _ _ W
  rw [← hq]
  obtain ⟨ci, hci⟩ : ∃ ci, ci = rkL d[i]! := ⟨_, rfl⟩
  obtain ⟨cj, hcj⟩ : ∃ cj, cj = rkL d[j]! := ⟨_, rfl⟩
  rw [← hci] at RI LI OV
  rw [← hcj] at RJ LJ OV
  obtain ⟨n, hn⟩ : ∃ n, n = d.size := ⟨_, rfl⟩
  rw [← hn] at hi hj hsz hcap CE HM
  have eg := enters_of Tryz.func33 (by kernel_rfl) rfl
  clear hbs hm hq hci hcj hn hgb gb gm gn
  go_enter Tryz.func143, Tryz.ntmps143
  go_upto_region 1 with fail
  refine wp_region_held_drew (S := (fun w' => Below W.heap.size W w')) (by kernel_rfl) (Below.drew (Below.refl _ _)) (fun hHeld => ?_)
  generalize hwd : W.drew = wd at  hHeld ⊢
  clear hwd
  refine held_take (i := 0) (v := (.pointer (some ⟨b, 3, none⟩))) rfl (by kernel_rfl) (by kernel_rfl) (by kernel_rfl) (fun _ _ _ h => h) (Or.inl ⟨by rfl, fun w' _ => by kernel_rfl⟩) hHeld ?_
  go_frame
  refine held_take (i := 1) (v := (.pointer (some ⟨b, 3, none⟩))) rfl (by kernel_rfl) (by kernel_rfl) (by kernel_rfl) (fun _ _ _ h => h) (Or.inl ⟨by rfl, fun w' _ => by kernel_rfl⟩) hHeld ?_
  go_frame
  refine held_take (i := 2) (v := (.pointer (some ⟨b, 4, none⟩))) rfl (by kernel_rfl) (by kernel_rfl) (by kernel_rfl) (fun _ _ _ h => h) (Or.inl ⟨by rfl, fun w' _ => by kernel_rfl⟩) hHeld ?_
  go_frame
  refine held_take (i := 3) (v := overV) rfl (by kernel_rfl) (by kernel_rfl) (by kernel_rfl) (fun _ _ _ h => h) (yieldsIf_load_one (by rfl) 75 (.tmp 9) rfl b (4) rfl _ _ (fun w' hw' => cell_below CE.out.2.2.2.2 hw') Tryz.underlying75 rfl) hHeld ?_
  go_frame
  refine held_take (i := 4) (v := (.pointer (some ⟨b, 3, none⟩))) rfl (by kernel_rfl) (by kernel_rfl) (by kernel_rfl) (fun _ _ _ h => h) (Or.inl ⟨by rfl, fun w' _ => by kernel_rfl⟩) hHeld ?_
  go_frame
  refine held_take (i := 5) (v := (.pointer (some ⟨b, 3, none⟩))) rfl (by kernel_rfl) (by kernel_rfl) (by kernel_rfl) (fun _ _ _ h => h) (Or.inl ⟨by rfl, fun w' _ => by kernel_rfl⟩) hHeld ?_
  go_frame
  refine held_take (i := 6) (v := (.pointer (some ⟨b, 3, none⟩))) rfl (by kernel_rfl) (by kernel_rfl) (by kernel_rfl) (fun _ _ _ h => h) (Or.inl ⟨by rfl, fun w' _ => by kernel_rfl⟩) hHeld ?_
  go_frame
  refine held_take (i := 7) (v := (.slice (some ⟨g, 0, none⟩) n cap)) rfl (by kernel_rfl) (by kernel_rfl) (by kernel_rfl) (fun _ _ _ h => h) (yieldsIf_load_one (by rfl) 79 (.tmp 13) rfl b (3) rfl _ _ (fun w' hw' => cell_below CE.out.2.2.2.1 hw') Tryz.underlying79 rfl) hHeld ?_
  go_frame
  refine held_take (i := 8) (v := (.int .i64 (i : Int))) rfl (by kernel_rfl) (by kernel_rfl) (by kernel_rfl) (fun _ _ _ h => h) (Or.inl ⟨by rfl, fun w' _ => by kernel_rfl⟩) hHeld ?_
  go_frame
  refine held_take (i := 9) (v := (.pointer (some ⟨g, i * 33, none⟩))) rfl (by kernel_rfl) (by kernel_rfl) (by kernel_rfl) (fun _ _ _ h => h) (Or.inl ⟨by rfl, fun w' _ => by go_simp⟩) hHeld ?_
  go_frame
  refine held_take (i := 10) (v := (.agg ci.toArray)) rfl (by kernel_rfl) (by kernel_rfl) (by kernel_rfl) (fun _ _ _ h => h) (Sha.yieldsIf_load_mid (by rfl) 78 (.tmp 16) rfl g (i * 33) rfl ci _ (fun w' hw' => range_below RI.out hw') Tryz.underlying78 rfl (by rw [LI.out]; kernel_rfl)) hHeld ?_
  go_frame
  refine held_take (i := 11) (v := (.pointer (some ⟨b, 3, none⟩))) rfl (by kernel_rfl) (by kernel_rfl) (by kernel_rfl) (fun _ _ _ h => h) (Or.inl ⟨by rfl, fun w' _ => by kernel_rfl⟩) hHeld ?_
  go_frame
  refine held_take (i := 12) (v := (.pointer (some ⟨b, 3, none⟩))) rfl (by kernel_rfl) (by kernel_rfl) (by kernel_rfl) (fun _ _ _ h => h) (Or.inl ⟨by rfl, fun w' _ => by kernel_rfl⟩) hHeld ?_
  go_frame
  refine held_take (i := 13) (v := (.pointer (some ⟨b, 3, none⟩))) rfl (by kernel_rfl) (by kernel_rfl) (by kernel_rfl) (fun _ _ _ h => h) (Or.inl ⟨by rfl, fun w' _ => by kernel_rfl⟩) hHeld ?_
  go_frame
  refine held_take (i := 14) (v := (.slice (some ⟨g, 0, none⟩) n cap)) rfl (by kernel_rfl) (by kernel_rfl) (by kernel_rfl) (fun _ _ _ h => h) (yieldsIf_load_one (by rfl) 79 (.tmp 20) rfl b (3) rfl _ _ (fun w' hw' => cell_below CE.out.2.2.2.1 hw') Tryz.underlying79 rfl) hHeld ?_
  go_frame
  refine held_take (i := 15) (v := (.int .i64 (j : Int))) rfl (by kernel_rfl) (by kernel_rfl) (by kernel_rfl) (fun _ _ _ h => h) (Or.inl ⟨by rfl, fun w' _ => by kernel_rfl⟩) hHeld ?_
  go_frame
  refine held_take (i := 16) (v := (.pointer (some ⟨g, j * 33, none⟩))) rfl (by kernel_rfl) (by kernel_rfl) (by kernel_rfl) (fun _ _ _ h => h) (Or.inl ⟨by rfl, fun w' _ => by go_simp⟩) hHeld ?_
  go_frame
  refine held_take (i := 17) (v := (.agg cj.toArray)) rfl (by kernel_rfl) (by kernel_rfl) (by kernel_rfl) (fun _ _ _ h => h) (Sha.yieldsIf_load_mid (by rfl) 78 (.tmp 23) rfl g (j * 33) rfl cj _ (fun w' hw' => range_below RJ.out hw') Tryz.underlying78 rfl (by rw [LJ.out]; kernel_rfl)) hHeld ?_
  go_frame
  refine wpAnyH_ready (rs := [18]) (by kernel_rfl) (by simp) (held_cons rfl (fun K hK => ?_) AllReadyH.nil)
  go_simp
  first | refine (OV.out _).mono ?_ | (go_at_fn 33; refine (OV.out _).mono ?_)
  rintro e v1 ⟨rfl, bb⟩
  have hv1 := hHeld.trans (bb.mono hHeld.size)
  clear bb hHeld
  go_wp2_with fail
  refine hK.out _ _ hv1 (fun hHeld => ?_)
  clear hK K hv1
  refine held_take (i := 19) (v := (.bool q)) rfl (by kernel_rfl) (by kernel_rfl) (by kernel_rfl) (fun _ _ _ h => h) (Or.inl ⟨by rfl, fun w' _ => by kernel_rfl⟩) hHeld ?_
  go_frame
  refine wpAnyH_done (by kernel_rfl) ?_ _
  go_wp2_with fail
  go_ret
  exact ⟨rfl, ⟨Nat.le_trans HB.out hHeld.size, HZ.out, _, HM.out.below hHeld⟩, HtR.below hHeld⟩
set_option maxHeartbeats 2000000 in
set_option maxRecDepth 100000 in
theorem bkswap_any (W : World) (base b tb bm mm : Nat) (B Mt : IdSet) (d : Array Rk) (i j : Nat) (h : RkI base b tb bm mm B Mt d W) (hi : i < d.size) (hj : j < d.size) :
    Calls Tryz.prog 146 #[(.pointer (some ⟨b, 3, none⟩)), .int .i64 (i : Int), .int .i64 (j : Int)] W fun e w' => e = .returned (.tuple #[]) ∧ RkI base b tb bm mm B Mt (swp d i j) w' ∧ HtR base W w' := by
  obtain ⟨hbs, hsz, lv, hm⟩ := h
  obtain ⟨g, cap, rfl, hgb, gb, gm, gn, hcap⟩ := hm.shape (by omega)
  have HM := Lib.hid hm
  have HB := Lib.hid hbs
  have HZ := Lib.hid hsz
  have CE := Lib.hid hm.cells
  have RI : Hid (W.rangeAt g (i * 33) (rkL d[i]!)) := by
    obtain ⟨b', o', e, hg⟩ := (hm.row.at (by decide)).get (by omega)
    cases e
    have := hg i _ (rk_at hi)
    rwa [Nat.zero_add] at this
  have RJ : Hid (W.rangeAt g (j * 33) (rkL d[j]!)) := by
    obtain ⟨b', o', e, hg⟩ := (hm.row.at (by decide)).get (by omega)
    cases e
    have := hg j _ (rk_at hj)
    rwa [Nat.zero_add] at this
  have LI : Hid ((rkL d[i]!).length = 33) := rkL_length _
  have LJ : Hid ((rkL d[j]!).length = 33) := rkL_length _
  have OI : Hid (∀ u ∈ rkL d[i]!, u.oneCell' = true) := rkL_one _
  have OJ : Hid (∀ u ∈ rkL d[j]!, u.oneCell' = true) := rkL_one _
  have RO := Lib.hid hm.row
  obtain ⟨L, hL⟩ : ∃ L, L = d.toList.map rkL := ⟨_, rfl⟩
  have SW : Hid ((L.set i (rkL d[j]!)).set j (rkL d[i]!) = (swp d i j).toList.map rkL) := by
    show _ = _
    rw [hL, rk_set, rk_set]
    rfl
  have SZ : Hid ((swp d i j).size ≤ 1048576) := by show _ ≤ _; rw [Go.Sort.size_swp]; exact hsz
  rw [← hL] at RO
  obtain ⟨ci, hci⟩ : ∃ ci, ci = rkL d[i]! := ⟨_, rfl⟩
  obtain ⟨cj, hcj⟩ : ∃ cj, cj = rkL d[j]! := ⟨_, rfl⟩
  rw [← hci] at RI LI OI SW
  rw [← hcj] at RJ LJ OJ SW
  obtain ⟨d', hd'⟩ : ∃ d', d' = swp d i j := ⟨_, rfl⟩
  rw [← hd'] at SW SZ ⊢
  obtain ⟨n, hn⟩ : ∃ n, n = d.size := ⟨_, rfl⟩
  rw [← hn] at hi hj hsz hcap CE HM RO
  clear hbs hm hci hcj hn hL hd' hgb gb gm gn
  go_enter Tryz.func146, Tryz.ntmps146
  refine wp_region_end (fun w' => Below W.heap.size W w') [25, 27] (by kernel_rfl) (Below.drew (Below.refl _ _)) (fun hHeld => ?_)
  generalize hwd : W.drew = wd at  hHeld ⊢
  clear hwd
  refine end_take (i := 0) (v := (.pointer (some ⟨b, 3, none⟩))) rfl (by kernel_rfl) (by kernel_rfl) (by kernel_rfl) (by kernel_rfl) (fun _ _ _ h => h) (Or.inl ⟨by rfl, fun w' _ => by kernel_rfl⟩) hHeld ?_
  go_frame
  refine end_take (i := 1) (v := (.pointer (some ⟨b, 3, none⟩))) rfl (by kernel_rfl) (by kernel_rfl) (by kernel_rfl) (by kernel_rfl) (fun _ _ _ h => h) (Or.inl ⟨by rfl, fun w' _ => by kernel_rfl⟩) hHeld ?_
  go_frame
  refine end_take (i := 2) (v := (.pointer (some ⟨b, 3, none⟩))) rfl (by kernel_rfl) (by kernel_rfl) (by kernel_rfl) (by kernel_rfl) (fun _ _ _ h => h) (Or.inl ⟨by rfl, fun w' _ => by kernel_rfl⟩) hHeld ?_
  go_frame
  refine end_take (i := 3) (v := (.slice (some ⟨g, 0, none⟩) n cap)) rfl (by kernel_rfl) (by kernel_rfl) (by kernel_rfl) (by kernel_rfl) (fun _ _ _ h => h) (yieldsIf_load_one (by rfl) 79 (.tmp 8) rfl b (3) rfl _ _ (fun w' hw' => cell_below CE.out.2.2.2.1 hw') Tryz.underlying79 rfl) hHeld ?_
  go_frame
  refine end_take (i := 4) (v := (.int .i64 (i : Int))) rfl (by kernel_rfl) (by kernel_rfl) (by kernel_rfl) (by kernel_rfl) (fun _ _ _ h => h) (Or.inl ⟨by rfl, fun w' _ => by kernel_rfl⟩) hHeld ?_
  go_frame
  refine end_take (i := 5) (v := (.pointer (some ⟨b, 3, none⟩))) rfl (by kernel_rfl) (by kernel_rfl) (by kernel_rfl) (by kernel_rfl) (fun _ _ _ h => h) (Or.inl ⟨by rfl, fun w' _ => by kernel_rfl⟩) hHeld ?_
  go_frame
  refine end_take (i := 6) (v := (.pointer (some ⟨b, 3, none⟩))) rfl (by kernel_rfl) (by kernel_rfl) (by kernel_rfl) (by kernel_rfl) (fun _ _ _ h => h) (Or.inl ⟨by rfl, fun w' _ => by kernel_rfl⟩) hHeld ?_
  go_frame
  refine end_take (i := 7) (v := (.pointer (some ⟨b, 3, none⟩))) rfl (by kernel_rfl) (by kernel_rfl) (by kernel_rfl) (by kernel_rfl) (fun _ _ _ h => h) (Or.inl ⟨by rfl, fun w' _ => by kernel_rfl⟩) hHeld ?_
  go_frame
  refine end_take (i := 8) (v := (.slice (some ⟨g, 0, none⟩) n cap)) rfl (by kernel_rfl) (by kernel_rfl) (by kernel_rfl) (by kernel_rfl) (fun _ _ _ h => h) (yieldsIf_load_one (by rfl) 79 (.tmp 13) rfl b (3) rfl _ _ (fun w' hw' => cell_below CE.out.2.2.2.1 hw') Tryz.underlying79 rfl) hHeld ?_
  go_frame
  refine end_pure (i := 9) (v := (.int .i64 (j : Int))) rfl (by kernel_rfl) (by kernel_rfl) (by kernel_rfl) (by kernel_rfl) (fun _ _ _ h => h) (Or.inl ⟨by rfl, fun w' _ => by kernel_rfl⟩) (fun _ => hHeld) ?_
  go_frame
  refine end_take (i := 10) (v := (.pointer (some ⟨b, 3, none⟩))) rfl (by kernel_rfl) (by kernel_rfl) (by kernel_rfl) (by kernel_rfl) (fun _ _ _ h => h) (Or.inl ⟨by rfl, fun w' _ => by kernel_rfl⟩) hHeld ?_
  go_frame
  refine end_take (i := 11) (v := (.pointer (some ⟨b, 3, none⟩))) rfl (by kernel_rfl) (by kernel_rfl) (by kernel_rfl) (by kernel_rfl) (fun _ _ _ h => h) (Or.inl ⟨by rfl, fun w' _ => by kernel_rfl⟩) hHeld ?_
  go_frame
  refine end_take (i := 12) (v := (.pointer (some ⟨b, 3, none⟩))) rfl (by kernel_rfl) (by kernel_rfl) (by kernel_rfl) (by kernel_rfl) (fun _ _ _ h => h) (Or.inl ⟨by rfl, fun w' _ => by kernel_rfl⟩) hHeld ?_
  go_frame
  refine end_take (i := 13) (v := (.slice (some ⟨g, 0, none⟩) n cap)) rfl (by kernel_rfl) (by kernel_rfl) (by kernel_rfl) (by kernel_rfl) (fun _ _ _ h => h) (yieldsIf_load_one (by rfl) 79 (.tmp 18) rfl b (3) rfl _ _ (fun w' hw' => cell_below CE.out.2.2.2.1 hw') Tryz.underlying79 rfl) hHeld ?_
  go_frame
  refine end_take (i := 14) (v := (.int .i64 (j : Int))) rfl (by kernel_rfl) (by kernel_rfl) (by kernel_rfl) (by kernel_rfl) (fun _ _ _ h => h) (Or.inl ⟨by rfl, fun w' _ => by kernel_rfl⟩) hHeld ?_
  go_frame
  refine end_take (i := 15) (v := (.pointer (some ⟨g, j * 33, none⟩))) rfl (by kernel_rfl) (by kernel_rfl) (by kernel_rfl) (by kernel_rfl) (fun _ _ _ h => h) (Or.inl ⟨by rfl, fun w' _ => by go_simp⟩) hHeld ?_
  go_frame
  refine end_take (i := 16) (v := (.agg cj.toArray)) rfl (by kernel_rfl) (by kernel_rfl) (by kernel_rfl) (by kernel_rfl) (fun _ _ _ h => h) (Sha.yieldsIf_load_mid (by rfl) 78 (.tmp 21) rfl g (j * 33) rfl cj _ (fun w' hw' => range_below RJ.out hw') Tryz.underlying78 rfl (by rw [LJ.out]; kernel_rfl)) hHeld ?_
  go_frame
  refine end_take (i := 17) (v := (.pointer (some ⟨b, 3, none⟩))) rfl (by kernel_rfl) (by kernel_rfl) (by kernel_rfl) (by kernel_rfl) (fun _ _ _ h => h) (Or.inl ⟨by rfl, fun w' _ => by kernel_rfl⟩) hHeld ?_
  go_frame
  refine end_take (i := 18) (v := (.pointer (some ⟨b, 3, none⟩))) rfl (by kernel_rfl) (by kernel_rfl) (by kernel_rfl) (by kernel_rfl) (fun _ _ _ h => h) (Or.inl ⟨by rfl, fun w' _ => by kernel_rfl⟩) hHeld ?_
  go_frame
  refine end_take (i := 19) (v := (.pointer (some ⟨b, 3, none⟩))) rfl (by kernel_rfl) (by kernel_rfl) (by kernel_rfl) (by kernel_rfl) (fun _ _ _ h => h) (Or.inl ⟨by rfl, fun w' _ => by kernel_rfl⟩) hHeld ?_
  go_frame
  refine end_take (i := 20) (v := (.slice (some ⟨g, 0, none⟩) n cap)) rfl (by kernel_rfl) (by kernel_rfl) (by kernel_rfl) (by kernel_rfl) (fun _ _ _ h => h) (yieldsIf_load_one (by rfl) 79 (.tmp 25) rfl b (3) rfl _ _ (fun w' hw' => cell_below CE.out.2.2.2.1 hw') Tryz.underlying79 rfl) hHeld ?_
  go_frame
  refine end_take (i := 21) (v := (.int .i64 (i : Int))) rfl (by kernel_rfl) (by kernel_rfl) (by kernel_rfl) (by kernel_rfl) (fun _ _ _ h => h) (Or.inl ⟨by rfl, fun w' _ => by kernel_rfl⟩) hHeld ?_
  go_frame
  refine end_take (i := 22) (v := (.pointer (some ⟨g, i * 33, none⟩))) rfl (by kernel_rfl) (by kernel_rfl) (by kernel_rfl) (by kernel_rfl) (fun _ _ _ h => h) (Or.inl ⟨by rfl, fun w' _ => by go_simp⟩) hHeld ?_
  go_frame
  refine end_take (i := 23) (v := (.agg ci.toArray)) rfl (by kernel_rfl) (by kernel_rfl) (by kernel_rfl) (by kernel_rfl) (fun _ _ _ h => h) (Sha.yieldsIf_load_mid (by rfl) 78 (.tmp 28) rfl g (i * 33) rfl ci _ (fun w' hw' => range_below RI.out hw') Tryz.underlying78 rfl (by rw [LI.out]; kernel_rfl)) hHeld ?_
  go_frame
  refine end_take (i := 24) (v := (.pointer (some ⟨g, i * 33, none⟩))) rfl (by kernel_rfl) (by kernel_rfl) (by kernel_rfl) (by kernel_rfl) (fun _ _ _ h => h) (Or.inl ⟨by rfl, fun w' _ => by go_simp⟩) hHeld ?_
  go_frame
  refine end_last (i := 25) (by kernel_rfl) (by kernel_rfl) rfl (fun K hK => ?_)
  rw [if_pos (by rfl)]
  have RA := Lib.hid (RO.out.keep hHeld)
  have HA := Lib.hid hHeld
  refine wp_store_rw 78 (.tmp 30) (.tmp 22) rfl g i base n cap 33 78 L cj rfl rfl LJ.out OJ.out (by kernel_rfl) RA.out hi ?_
  intro v1 q1 q2
  have R1 := Lib.hid q1
  have G1 := Lib.hid q2
  clear q1 q2 hHeld
  go_frame
  refine hK.out _ _ ?_
  clear hK K
  refine end_late (i := 26) (v := (.pointer (some ⟨g, j * 33, none⟩))) rfl (by kernel_rfl) (by kernel_rfl) (by kernel_rfl) (by kernel_rfl) (by kernel_rfl) (fun _ _ _ h => h) (Or.inl ⟨by rfl, fun w' _ => by go_simp⟩) ?_
  go_frame
  refine end_last (i := 27) (by kernel_rfl) (by kernel_rfl) rfl (fun K hK => ?_)
  rw [if_pos (by rfl)]
  refine wp_store_rw 78 (.tmp 31) (.tmp 29) rfl g j base n cap 33 78 (L.set i cj) ci rfl rfl LI.out OI.out (by kernel_rfl) R1.out hj ?_
  intro v2 q1 q2
  have R2 := Lib.hid q1
  have G2 := Lib.hid (grownBy_trans G1.out q2)
  clear q1 q2
  go_frame
  refine hK.out _ _ ?_
  clear hK K
  refine end_done (by kernel_rfl) ?_ _
  go_wp2_with fail
  go_end0
  have r2 := R2.out
  rw [SW.out] at r2
  exact ⟨rfl, ⟨Nat.le_trans (Nat.le_trans HB.out HA.out.size) G2.out.size, SZ.out, _, (HM.out.below HA.out).swapped G2.out r2⟩, (HtR.below HA.out).trans (HtR.own RA.out.1 G2.out)⟩
theorem own_onev {w : World} {base n k : Nat} {T : TypeId} {v : Value} {xs : List Value} (h : w.ownsRow base T k v n xs) : v.oneCell' = true := by
  rcases h.2 with ⟨rfl, _⟩ | ⟨g, cap, cur, rfl, _⟩ <;> rfl
set_option maxHeartbeats 2000000 in
set_option maxRecDepth 100000 in
theorem bkpush_any (W : World) (base b tb bm mm : Nat) (B Mt : IdSet) (d : Array Rk) (x : Rk) (h : RkI base b tb bm mm B Mt d W) (hz : d.size < 1048576) :
    Calls Tryz.prog 145 #[(.pointer (some ⟨b, 3, none⟩)), rkV x] W fun e w' => e = .returned (.tuple #[]) ∧ RkI base b tb bm mm B Mt (d.push x) w' ∧ HtR base W w' := by
  obtain ⟨i0, hi, hz0, hz1, hz2⟩ := info_parts info_rk
  obtain ⟨hbs, hsz, lv, hm⟩ := h
  have HM := Lib.hid hm
  have HB := Lib.hid hbs
  have CE := Lib.hid hm.cells
  have RO := Lib.hid hm.row
  have BX := Lib.hid hm.box
  have LX : Hid ((rkL x).length = 33) := rkL_length _
  have OX : Hid (∀ u ∈ rkL x, u.oneCell' = true) := rkL_one _
  have PE : Hid (d.toList.map rkL ++ [rkL x] = (d.push x).toList.map rkL) := by show _ = _; simp
  have SZ : Hid ((d.push x).size ≤ 1048576) := by show _ ≤ _; rw [Array.size_push]; omega
  have DL : Hid ((d.toList.map rkL).length < 1048576) := by show _ < _; rw [rk_len]; exact hz
  obtain ⟨L, hL⟩ : ∃ L, L = d.toList.map rkL := ⟨_, rfl⟩
  rw [← hL] at RO PE DL
  obtain ⟨d', hd'⟩ : ∃ d', d' = d.push x := ⟨_, rfl⟩
  rw [← hd'] at PE SZ ⊢
  have VX : Hid (rkV x = .iface 78 (.agg (rkL x).toArray)) := rfl
  obtain ⟨xv, hxv⟩ : ∃ xv, xv = rkV x := ⟨_, rfl⟩
  rw [← hxv] at VX ⊢
  obtain ⟨cx, hcx⟩ : ∃ cx, cx = rkL x := ⟨_, rfl⟩
  rw [← hcx] at LX OX PE VX
  have vx := VX.out
  subst vx
  clear hm hbs hsz hz hL hd' hcx hxv VX
  go_enter Tryz.func145, Tryz.ntmps145
  refine wp_region_end (fun w' => Below W.heap.size W w') [8, 11] (by kernel_rfl) (Below.drew (Below.refl _ _)) (fun hHeld => ?_)
  generalize hwd : W.drew = wd at  hHeld ⊢
  clear hwd
  refine end_pure (i := 0) (v := (.pointer (some ⟨b, 3, none⟩))) rfl (by kernel_rfl) (by kernel_rfl) (by kernel_rfl) (by kernel_rfl) (fun _ _ _ h => h) (Or.inl ⟨by rfl, fun w' _ => by kernel_rfl⟩) (fun _ => hHeld) ?_
  go_frame
  refine end_take (i := 1) (v := (.pointer (some ⟨b, 3, none⟩))) rfl (by kernel_rfl) (by kernel_rfl) (by kernel_rfl) (by kernel_rfl) (fun _ _ _ h => h) (Or.inl ⟨by rfl, fun w' _ => by kernel_rfl⟩) hHeld ?_
  go_frame
  refine end_take (i := 2) (v := (.pointer (some ⟨b, 3, none⟩))) rfl (by kernel_rfl) (by kernel_rfl) (by kernel_rfl) (by kernel_rfl) (fun _ _ _ h => h) (Or.inl ⟨by rfl, fun w' _ => by kernel_rfl⟩) hHeld ?_
  go_frame
  refine end_take (i := 3) (v := (.pointer (some ⟨b, 3, none⟩))) rfl (by kernel_rfl) (by kernel_rfl) (by kernel_rfl) (by kernel_rfl) (fun _ _ _ h => h) (Or.inl ⟨by rfl, fun w' _ => by kernel_rfl⟩) hHeld ?_
  go_frame
  refine end_take (i := 4) (v := lv) rfl (by kernel_rfl) (by kernel_rfl) (by kernel_rfl) (by kernel_rfl) (fun _ _ _ h => h) (yieldsIf_load_one (by rfl) 79 (.tmp 7) rfl b (3) rfl _ _ (fun w' hw' => cell_below CE.out.2.2.2.1 hw') Tryz.underlying79 rfl) hHeld ?_
  go_frame
  refine end_take (i := 5) (v := (.iface 78 (.agg cx.toArray))) rfl (by kernel_rfl) (by kernel_rfl) (by kernel_rfl) (by kernel_rfl) (fun _ _ _ h => h) (Or.inl ⟨by rfl, fun w' _ => by kernel_rfl⟩) hHeld ?_
  go_frame
  refine end_take (i := 6) (v := (.agg cx.toArray)) rfl (by kernel_rfl) (by kernel_rfl) (by kernel_rfl) (by kernel_rfl) (fun _ _ _ h => h) (Or.inl ⟨by rfl, fun w' _ => by kernel_rfl⟩) hHeld ?_
  go_frame
  refine end_next (i := 7) (by kernel_rfl) rfl (fun K hK => ?_)
  rw [if_pos (by rfl)]
  refine wp_slice_one 79 78 (.tmp 10) rfl (cx) rfl Tryz.underlying79 i0 _ hi hz0 (by rw [hz1, LX.out]) (by rw [LX.out]; omega) (by rw [LX.out]; omega) ?_
  have nf := heap_alloc_new wd (.cells (cx).toArray 78 (0, 0))
  have bb := (Below.refl wd.heap.size wd).alloc (Nat.le_refl _) (.cells (cx).toArray 78 (0, 0))
  obtain ⟨gv1, hgv1⟩ : ∃ g, g = wd.heap.size := ⟨_, rfl⟩
  generalize hqv1 : World.alloc _ _ = v1
  have ev1 : wd.alloc (.cells (cx).toArray 78 (0, 0)) = v1 := hqv1
  rw [ev1] at nf bb
  rw [← hgv1] at nf ⊢
  have NF := Lib.hid nf
  have hv1 := hHeld.trans (bb.mono hHeld.size)
  clear nf bb hqv1 ev1 hgv1 hHeld
  go_frame
  refine hK.out _ _ hv1 (fun hHeld => ?_)
  clear hK K hv1
  refine end_last (i := 8) (by kernel_rfl) (by kernel_rfl) rfl (fun K hK => ?_)
  rw [if_pos (by rfl)]
  have RA := Lib.hid (RO.out.keep hHeld)
  have HA := Lib.hid hHeld
  refine wp_append_row v1 (.tmp 8) (.tmp 11) 79 rfl base 78 i0 (.agg (Value.int .u64 0 :: List.replicate 32 (bV 0)).toArray) 33 40 Tryz.underlying79 hi hz0 hz1 hz2 (by kernel_rfl) (by decide) lv L.length L.flatten rfl RA.out.1 ⟨gv1, 0, none⟩ 1 1 cx rfl (by rw [LX.out]) (fun j u hj => by rw [Addr.add_mid]; exact range_of_box NF.out j u hj) OX.out (by have := DL.out; unfold maxLen; omega) (by have := DL.out; omega) (Nat.le_trans HB.out HA.out.size) ?_
  intro nv v2 q1 q2 q3
  have R1 : Hid (RwOwn 33 78 base v2 nv (L ++ [cx])) := RwOwn.push RA.out.2 LX.out q1
  have G1 := Lib.hid q2
  clear q1 q2 q3 hHeld NF
  go_frame
  refine hK.out _ _ ?_
  clear hK K
  refine end_late (i := 9) (v := (.pointer (some ⟨b, 3, none⟩))) rfl (by kernel_rfl) (by kernel_rfl) (by kernel_rfl) (by kernel_rfl) (by kernel_rfl) (fun _ _ _ h => h) (Or.inl ⟨by rfl, fun w' _ => by kernel_rfl⟩) ?_
  go_frame
  refine end_late (i := 10) (v := (.pointer (some ⟨b, 3, none⟩))) rfl (by kernel_rfl) (by kernel_rfl) (by kernel_rfl) (by kernel_rfl) (by kernel_rfl) (fun _ _ _ h => h) (Or.inl ⟨by rfl, fun w' _ => by kernel_rfl⟩) ?_
  go_frame
  refine end_last (i := 11) (by kernel_rfl) (by kernel_rfl) rfl (fun K hK => ?_)
  rw [if_pos (by rfl)]
  have TU := Lib.hid ((HM.out.below HA.out).turn G1.out)
  have ONE : nv.oneCell' = true := own_onev R1.out.1
  refine wp_store_part 79 (.tmp 14) (.tmp 12) rfl b 3 [.pointer (some ⟨tb, 0, none⟩), .map (some bm), .map (some mm)] [lv] [overV] [nv] 83 nv rfl rfl (cells_one ONE) rfl rfl TU.out.1 (by kernel_rfl) (fun u hu => by rw [List.mem_singleton.1 hu]; exact ONE) ?_
  intro v3 q1 q2
  have F9 := Lib.hid q1
  have G9 := Lib.hid q2
  clear q1 q2 ONE
  go_frame
  refine hK.out _ _ ?_
  clear hK K
  refine end_done (by kernel_rfl) ?_ _
  go_wp2_with fail
  go_end0
  have r1 := R1.out
  rw [PE.out] at r1
  exact ⟨rfl, ⟨Nat.le_trans (Nat.le_trans (Nat.le_trans HB.out HA.out.size) G1.out.size) G9.out.size, SZ.out, _, MkAt.boxed TU.out.1 TU.out.2.1 TU.out.2.2 r1 HM.out.ne HM.out.lo F9.out G9.out⟩, ((HtR.below HA.out).trans (HtR.own RA.out.1 G1.out)).trans (HtR.box HM.out.lo.1 TU.out.1 G9.out)⟩
set_option maxHeartbeats 2000000 in
set_option maxRecDepth 100000 in
theorem bkpop_any (W : World) (base b tb bm mm : Nat) (B Mt : IdSet) (d : Array Rk) (n : Nat) (h : RkI base b tb bm mm B Mt d W) (hn : d.size = n + 1) :
    Calls Tryz.prog 144 #[(.pointer (some ⟨b, 3, none⟩))] W fun e w' => e = .returned (rkV d[n]!) ∧ RkI base b tb bm mm B Mt d.pop w' ∧ HtR base W w' := by
  obtain ⟨hbs, hsz, lv, hm⟩ := h
  obtain ⟨g, cap, rfl, hgb, gb, gm, gn, hcap⟩ := hm.shape (by omega)
  have RX : Hid (W.rangeAt g (n * 33) (rkL d[n]!)) := by
    obtain ⟨b', o', e, hg⟩ := (hm.row.at (by decide)).get (by omega)
    cases e
    have := hg n _ (rk_at (by omega))
    rwa [Nat.zero_add] at this
  rw [hn] at hm hcap
  have HM := Lib.hid hm
  have HB := Lib.hid hbs
  have CE := Lib.hid hm.cells
  have LX : Hid ((rkL d[n]!).length = 33) := rkL_length _
  have SX : Hid ((rkL d[n]!).toArray.size = 33) := rkL_size _
  have AX : Hid ((rkL d[n]!).toArray.all (·.oneCell') = true) := rkL_all _
  have PE : Hid (d.toList.map rkL = d.pop.toList.map rkL ++ [rkL d[n]!]) := by
    show _ = _
    have e : d = d.pop.push d[n]! := by
      apply Array.ext
      · simp [hn]
      · intro i h1 h2
        rw [Array.getElem_push]
        split
        · rw [Array.getElem_pop]
        · rw [getElem!_pos d n (by omega)]
          congr 1
          simp at *
          omega
    conv => lhs; rw [e]
    simp
  have SZ : Hid (d.pop.size ≤ 1048576) := by show _ ≤ _; rw [Array.size_pop]; omega
  have RO : Hid (RwOwn 33 78 base W (.slice (some ⟨g, 0, none⟩) n cap) (d.pop.toList.map rkL)) := by
    have h := hm.row
    rw [PE.out] at h
    exact h.head'
  have VX : Hid (.iface 78 (.agg (rkL d[n]!).toArray) = rkV d[n]!) := rfl
  obtain ⟨cx, hcx⟩ : ∃ cx, cx = rkL d[n]! := ⟨_, rfl⟩
  rw [← hcx] at RX LX SX AX VX
  have SLI : Hid (sliced (some ⟨g, 0, none⟩) 0 n cap 33 = .slice (some ⟨g, 0, none⟩) n cap) := by
    show _ = _
    unfold sliced
    split <;> rfl
  have c3 := hm.cells.2.2.2.1
  have nle : n ≤ 1048576 := by omega
  have ncap : n ≤ cap := by omega
  have NC := Lib.hid ncap
  clear hm hbs hsz hcx hgb gb gm gn hn hcap ncap PE
  go_enter Tryz.func144, Tryz.ntmps144
  go_upto_region 2 with fail
  go_upto_region 3 with ((with_reducible show wpList _ _ _ _ _ _); first | (refine wpList_load_mid rfl 78 (.tmp 16) rfl g (n * 33) rfl cx _ RX.out Tryz.underlying78 rfl (by rw [LX.out]; kernel_rfl) ?_; go_frame) | (refine wpList_store_row rfl 78 (.tmp 4) (.tmp 17) rfl W.heap.size cx.toArray rfl rfl 78 _ (heap_alloc_new _ _) (by rw [SX.out]; kernel_rfl) (by rw [SX.out]; rfl) AX.out ?_; go_frame))
  obtain ⟨_, f2, f3, f4⟩ := fill_setup (Below.refl W.heap.size W) (Value.int .u64 0 :: List.replicate 32 (bV 0)).toArray cx.toArray 78
  generalize hqw2 : World.setRow _ _ _ = w2
  have ew2 : World.setRow (W.alloc (.cells (Value.int .u64 0 :: List.replicate 32 (bV 0)).toArray 78)) W.heap.size cx.toArray = w2 := hqw2
  rw [ew2] at f2 f3 f4
  obtain ⟨g4, hg4⟩ : ∃ g4, g4 = W.heap.size := ⟨_, rfl⟩
  rw [← hg4] at f2 ⊢
  have F4 := Lib.hid f2
  have Ng4 : Hid (W.heap.size ≤ g4) := by show _ ≤ _; rw [hg4]; exact Nat.le_refl _
  have B2 := Lib.hid (f4)
  clear f2 f3 f4 hqw2 ew2 hg4
  clear c3
  have c3 := cell_below CE.out.2.2.2.1 B2.out
  have BX2 := Lib.hid (HM.out.below B2.out)
  go_upto_region 4 with ((with_reducible show wpList _ _ _ _ _ _); first | (refine wpList_cutS_h rfl 79 (.tmp 22) (.tmp 23) rfl 78 33 Tryz.underlying79 (by kernel_rfl) (some ⟨g, 0, none⟩) (n + 1) cap n rfl rfl NC.out ?_; intro vs q1; have e1 := q1.out.trans SLI.out; subst e1; clear q1; go_frame) | (refine wpList_store_part rfl 79 (.tmp 26) (.tmp 24) rfl b 3 [.pointer (some ⟨tb, 0, none⟩), .map (some bm), .map (some mm)] [(.slice (some ⟨g, 0, none⟩) (n + 1) cap)] [overV] [(.slice (some ⟨g, 0, none⟩) n cap)] 83 (.slice (some ⟨g, 0, none⟩) n cap) rfl rfl rfl rfl rfl BX2.out.box (by kernel_rfl) (fun u hu => by rw [List.mem_singleton.1 hu]; rfl) ?_; intro w3 q1 q2; have F9 := Lib.hid q1; have G9 := Lib.hid q2; clear q1 q2; go_frame))
  clear c3
  have F4 := Lib.hid (row_far F4.out G9.out (fun e => by have := Ng4.out; have h := HM.out.lt; have := Option.some.inj e; omega))
  go_wp2_with ((with_reducible show wpList _ _ _ _ _ _); (refine wpList_load_row rfl 78 (.tmp 4) rfl g4 rfl 78 cx.toArray (0, 0) _ F4.out Tryz.underlying78 rfl (by rw [SX.out]; kernel_rfl) ?_; go_frame))
  go_ret
  exact ⟨by rw [← VX.out]; rfl, ⟨Nat.le_trans (Nat.le_trans HB.out B2.out.size) G9.out.size, SZ.out, _, MkAt.boxed BX2.out.box BX2.out.bad BX2.out.met (RO.out.keep B2.out) BX2.out.ne BX2.out.lo F9.out G9.out⟩, (HtR.below B2.out).trans (HtR.box BX2.out.lo.1 BX2.out.box G9.out)⟩
/-- The ranks as container/heap has them. -/
noncomputable def bk_env (base b tb bm mm : Nat) (B Mt : IdSet) : HpE Rk overK 99 (.pointer (some ⟨b, 3, none⟩)) rkV (fun _ => True) 142 143 146 145 144 where
  I := RkI base b tb bm mm B Mt
  R := HtR base
  le := fun d W h => h.2.1
  rr := fun W => HtR.refl
  rt := fun a b c h k => h.trans k
  ml := fun n W => by kernel_rfl
  mw := fun n W => by kernel_rfl
  ms := fun n W => by kernel_rfl
  mu := fun n W => by kernel_rfl
  mo := fun n W => by kernel_rfl
  el := enters_of Tryz.func142 (by kernel_rfl) rfl
  ew := enters_of Tryz.func143 (by kernel_rfl) rfl
  es := enters_of Tryz.func146 (by kernel_rfl) rfl
  eu := enters_of Tryz.func145 (by kernel_rfl) rfl
  eo := enters_of Tryz.func144 (by kernel_rfl) rfl
  len := fun d W h => bklen_any W base b tb bm mm B Mt d h
  less := fun d W i j h hi hj => bkless_any W base b tb bm mm B Mt d i j h hi hj
  swap := fun d W i j h hi hj => bkswap_any W base b tb bm mm B Mt d i j h hi hj
  push := fun d W x h _ hz => bkpush_any W base b tb bm mm B Mt d x h hz
  pop := fun d W n h hn => bkpop_any W base b tb bm mm B Mt d n h hn
end Go.Proofs.YtdhcjaflbfpalaaGreatDoor.Sha

/-
  A block is marked, with all under it. Conditions: the marks lie where the pointer says, over a tree whose nodes hang on one another.
-/
namespace Go.Proofs.YtdhcjaflbfpalaaGreatDoor.Sha
open Go Go.RowKit
/-- A row of ids, and what kind of block it stands in. -/
def HsT (w : World) (v : Value) (l : List (List UInt8)) : Prop := HsAt w v l ∧ ∀ g, v.ownBlock = some g → ∃ cs, w.heap[g]? = some (.cells cs 26 (0, 0))
section
variable {w w' w'' : World} {base b tb bm mm : Nat} {lv : Value} {B B' Mt Mt' : IdSet} {d : Array Rk} {v : Value} {l : List (List UInt8)}
theorem HsT.kps {F : Nat → Prop} (h : HsT w v l) (hk : Kps F w w') (hf : ∀ g, v.ownBlock = some g → F g) : HsT w' v l := by
  refine ⟨⟨h.1.1, ?_⟩, fun g hg => ?_⟩
  · obtain ⟨sp, cap, rfl, h1, h2⟩ := h.1.2
    refine ⟨sp, cap, rfl, h1, fun h0 => ?_⟩
    obtain ⟨b, o, rfl, h3⟩ := h2 h0
    refine ⟨b, o, rfl, fun i x hx j u hu => ?_⟩
    obtain ⟨cs, hc⟩ := h.2 b rfl
    rw [World.cell?_of_block (w := w) (w' := w') (hk.block b (Array.getElem?_eq_some_iff.1 hc).1 (hf b rfl))]
    exact h3 i x hx j u hu
  · obtain ⟨cs, hc⟩ := h.2 g hg
    exact ⟨cs, row_kps hc hk (hf g hg)⟩
theorem HsT.below (h : HsT w v l) (hb : Below w.heap.size w w') : HsT w' v l :=
  h.kps (F := fun j => j < w.heap.size) (Kps.new hb |>.mono fun _ _ hf => hf) fun g hg => by
    obtain ⟨cs, hc⟩ := h.2 g hg
    exact (Array.getElem?_eq_some_iff.1 hc).1
theorem HsT.ht (h : HsT w v l) (hk : HtR base w w') : HsT w' v l := h.kps hk fun g hg => by
  obtain ⟨cs, hc⟩ := h.2 g hg
  exact HtR.rowF hc (by decide) (by decide)
theorem HsT.grownMap {α β : Type} {kf : α → Value} {vf : β → Value} {ok : α → Prop} {q : Nat} {M : List (α × β)} (h : HsT w v l) (hm : MpAt kf vf ok w q M) (hg : w.grownBy w' (some q)) : HsT w' v l :=
  h.kps (F := fun j => j ≠ q) (Kps.grown hg fun _ _ hf e => hf (Option.some.inj e)) fun g hg' => by
    obtain ⟨cs, hc⟩ := h.2 g hg'
    exact hm.ne' hc
theorem row_map {α β : Type} {kf : α → Value} {vf : β → Value} {ok : α → Prop} {q g : Nat} {M : List (α × β)} (hm : MpAt kf vf ok w q M) (hg : w.grownBy w' (some q)) {cs : Array Value} {T : TypeId} {fr : Nat × Nat} (hc : w.heap[g]? = some (.cells cs T fr)) : w'.heap[g]? = some (.cells cs T fr) :=
  row_far hc hg (fun e => hm.ne' hc (Option.some.inj e).symm)
theorem MkAt.bads (h : MkAt w base b tb bm mm lv B Mt d) (hb : MpAt hK unV (fun h => h.length = 32) w' bm B') (hg : w.grownBy w' (some bm)) : MkAt w' base b tb bm mm lv B' Mt d := by
  have hk : Kps (fun j => j ≠ bm) w w' := Kps.grown hg fun j _ hf e => hf (Option.some.inj e)
  exact ⟨row_kps h.box hk (h.bad.ne' h.box), hb, h.met.kps hk (fun e => h.ne e.symm), ⟨own_kpsB h.row.1 hk (fun g hg' e => own_nemap h.bad h.row.1 (by rw [hg', e])), h.row.2⟩, h.ne, h.lo⟩
theorem MkAt.mets (h : MkAt w base b tb bm mm lv B Mt d) (hb : MpAt hK unV (fun h => h.length = 32) w' mm Mt') (hg : w.grownBy w' (some mm)) : MkAt w' base b tb bm mm lv B Mt' d := by
  have hk : Kps (fun j => j ≠ mm) w w' := Kps.grown hg fun j _ hf e => hf (Option.some.inj e)
  exact ⟨row_kps h.box hk (h.met.ne' h.box), h.bad.kps hk h.ne, hb, ⟨own_kpsB h.row.1 hk (fun g hg' e => own_nemap h.met h.row.1 (by rw [hg', e])), h.row.2⟩, h.ne, h.lo⟩
theorem hs_at {sp : Option Addr} {n cap : Nat} (h : HsT w (.slice sp n cap) l) {k : Nat} {x : List UInt8} (hx : l[k]? = some x) : ∃ g o, sp = some ⟨g, o, none⟩ ∧ w.rangeAt g (o + k * 32) (x.map bV) ∧ x.length = 32 := by
  obtain ⟨sp', cap', e, _, h2⟩ := h.1.2
  cases e
  have hk := (List.getElem?_eq_some_iff.1 hx).1
  obtain ⟨g, o, rfl, h3⟩ := h2 (by omega)
  exact ⟨g, o, rfl, h3 k x hx, h.1.1 x (List.mem_of_getElem? hx)⟩
end
/-- What Bad leaves. -/
def BaP (base b tb bm mm : Nat) (lv : Value) (B Mt : IdSet) (d : Array Rk) (L : List TNd) (id : List UInt8) (w : World) (e : Ending) (w' : World) : Prop :=
  ∃ B', MkAt w' base b tb bm mm lv B' Mt d ∧ BtR base bm mm w w' ∧
    ((ofT L id).2.1 = 0 ∧ e = .returned (.bool false) ∧ B' = B ∨ (ofT L id).2.1 ≠ 0 ∧ e = .returned (.bool true) ∧ (isM L B id = true ∧ B' = B ∨ isM L B id = false ∧ ∃ l, l.Perm (undT L id) ∧ BadP B l id B'))
def BdInv (base b tb bm mm : Nat) (lv : Value) (B Mt : IdSet) (d : Array Rk) (l : List (List UInt8)) (vs : Value) (id : List UInt8) (g3 : Nat) (w : World) (v : Value) (wr : World) : Prop :=
  ∃ (k : Nat) (Bk : IdSet), v = .int .i64 (k : Int) ∧ k ≤ l.length ∧ MkAt wr base b tb bm mm lv Bk Mt d ∧ (∀ q, getG Bk q = if q ∈ l.take k then none else getG B q) ∧ BtR base bm mm w wr ∧ HsT wr vs l ∧ wr.heap[g3]? = some (.cells (id.map bV).toArray 26 (0, 0))
theorem take_succ {l : List (List UInt8)} {k : Nat} {x : List UInt8} (hx : l[k]? = some x) : l.take (k + 1) = l.take k ++ [x] := by
  rw [List.take_add_one, hx]; rfl
theorem und_le {L : List TNd} (id : List UInt8) : (undT L id).length ≤ L.length := by
  unfold undT
  split
  · exact Nat.zero_le _
  · unfold idsN
    rw [List.length_map]
    exact sub_le L _
set_option maxHeartbeats 3000000 in
set_option maxRecDepth 100000 in
theorem bkbad_any (w : World) (base b tb bm mm tbase tm : Nat) (lv : Value) (B Mt : IdSet) (d : Array Rk) (M : List CNd) (id : List UInt8) (hm : MkAt w base b tb bm mm lv B Mt d) (ht : CtAt w tbase tb tm M) (tr : TrL (ndM M)) (hid : id.length = 32) :
    Calls Tryz.prog 15 #[(.pointer (some ⟨b, 0, none⟩)), .agg (id.map bV).toArray] w (BaP base b tb bm mm lv B Mt d (ndM M) id w) := by
  have CE := Lib.hid hm.cells
  have HM := Lib.hid hm
  have OK := ofT_ok' tr id
  have HG : Hid (∀ W, Below w.heap.size w W → Calls Tryz.prog 37 #[(.pointer (some ⟨tb, 0, none⟩)), .agg (id.map bV).toArray] W fun e w' => e = .returned (.tuple #[.int .i64 (ofT (ndM M) id).2.1, .bool (ofT (ndM M) id).2.2.2]) ∧ Below W.heap.size W w') := fun W hW => ctheight_any W tbase tb tm M id (ht.below hW) tr hid
  have IS : Hid (∀ W, Below w.heap.size w W → Calls Tryz.prog 20 #[(.pointer (some ⟨b, 0, none⟩)), .agg (id.map bV).toArray] W fun e w' => e = .returned (.bool (isM (ndM M) B id)) ∧ Below W.heap.size W w') := fun W hW => bkis_any W base b tb bm mm tbase tm lv B Mt d M id (hm.below hW) (ht.below hW) tr hid
  have UN : Hid (∀ W, Below w.heap.size w W → Calls Tryz.prog 38 #[(.pointer (some ⟨tb, 0, none⟩)), .agg (id.map bV).toArray] W (UnPost2 (ndM M) id W)) := fun W hW => ctunder_own W tbase tb tm M id (ht.below hW) tr hid
  have NL : Hid ((undT (ndM M) id).length ≤ 4096) := Nat.le_trans (und_le id) tr.le
  obtain ⟨L, hL⟩ : ∃ L, L = ndM M := ⟨_, rfl⟩
  rw [← hL] at OK HG IS UN NL ⊢
  obtain ⟨h0, hh0⟩ : ∃ h0 : Nat, h0 = (ofT L id).2.1.toNat := ⟨_, rfl⟩
  have HE : (ofT L id).2.1 = (h0 : Int) := by omega
  have H0 : Hid (h0 ≤ 4096) := by show _ ≤ _; omega
  have HEQ := Lib.hid HE
  rw [HE] at HG
  obtain ⟨bo, hbo⟩ : ∃ bo, bo = (ofT L id).2.2.2 := ⟨_, rfl⟩
  rw [← hbo] at HG
  obtain ⟨im, him⟩ : ∃ im, im = isM L B id := ⟨_, rfl⟩
  rw [← him] at IS
  have IM := Lib.hid him
  have SC : Hid ((id.map bV).toArray.size = 32) := by show _ = _; rw [List.size_toArray, List.length_map]; exact hid
  have LI := Lib.hid hid
  clear hm ht tr hid OK HE hh0 hbo hL him
  go_enter Tryz.func15, Tryz.ntmps15
  go_upto_region 1 with fail
  have f0 := heap_alloc_new w (.cells (id.map bV).toArray 26 (0, 0))
  have bb : Below w.heap.size w (w.alloc (.cells (id.map bV).toArray 26 (0, 0))) := ((Below.refl w.heap.size w).alloc (by first | exact Nat.le_refl _ | (simp only [World.size_alloc]; omega)) (.cells (id.map bV).toArray 26 (0, 0)))
  generalize hq : World.alloc _ _ = w1
  have eq : w.alloc (.cells (id.map bV).toArray 26 (0, 0)) = w1 := hq
  rw [eq] at f0 bb
  obtain ⟨g3, hg3⟩ : ∃ g3, g3 = w.heap.size := ⟨_, rfl⟩
  have Gg3 : Hid (w.heap.size ≤ g3) := by show _ ≤ _; omega
  rw [← hg3] at f0 ⊢
  have F3 := Lib.hid f0
  have B1 := Lib.hid bb
  clear f0 bb hq eq hg3
  refine wp_region_held_drew (S := (fun w' => Below w1.heap.size w1 w')) (by kernel_rfl) (Below.drew (Below.refl _ _)) (fun hHeld => ?_)
  generalize hwd : w1.drew = wd at  hHeld ⊢
  clear hwd
  refine held_take (i := 0) (v := (.pointer (some ⟨b, 0, none⟩))) rfl (by kernel_rfl) (by kernel_rfl) (by kernel_rfl) (fun _ _ _ h => h) (Or.inl ⟨by rfl, fun w' _ => by kernel_rfl⟩) hHeld ?_
  go_frame
  refine held_take (i := 1) (v := (.pointer (some ⟨b, 0, none⟩))) rfl (by kernel_rfl) (by kernel_rfl) (by kernel_rfl) (fun _ _ _ h => h) (Or.inl ⟨by rfl, fun w' _ => by kernel_rfl⟩) hHeld ?_
  go_frame
  refine held_take (i := 2) (v := (.pointer (some ⟨b, 0, none⟩))) rfl (by kernel_rfl) (by kernel_rfl) (by kernel_rfl) (fun _ _ _ h => h) (Or.inl ⟨by rfl, fun w' _ => by kernel_rfl⟩) hHeld ?_
  go_frame
  refine held_take (i := 3) (v := (.pointer (some ⟨tb, 0, none⟩))) rfl (by kernel_rfl) (by kernel_rfl) (by kernel_rfl) (fun _ _ _ h => h) (yieldsIf_load_one (by rfl) 33 (.tmp 12) rfl b (0) rfl _ _ (fun w' hw' => cell_below CE.out.1 (B1.out.trans (hw'.mono B1.out.size))) Tryz.underlying33 rfl) hHeld ?_
  go_frame
  refine held_take (i := 4) (v := (.agg (id.map bV).toArray)) rfl (by kernel_rfl) (by kernel_rfl) (by kernel_rfl) (fun _ _ _ h => h) (yieldsIf_load_row (by rfl) 26 (.tmp 3) rfl g3 rfl 26 (id.map bV).toArray (0, 0) _ (fun w' hw' => row_below F3.out hw') Tryz.underlying26 rfl (by rw [SC.out]; kernel_rfl)) hHeld ?_
  go_frame
  refine wpAnyH_ready (rs := [5]) (by kernel_rfl) (by simp) (held_cons rfl (fun K hK => ?_) AllReadyH.nil)
  go_simp
  refine (HG.out _ (B1.out.trans (hHeld.mono B1.out.size))).mono ?_
  rintro e v1 ⟨rfl, bb⟩
  have hv1 := hHeld.trans (bb.mono hHeld.size)
  clear bb hHeld
  go_wp2_with fail
  refine hK.out _ _ hv1 (fun hHeld => ?_)
  clear hK K hv1
  refine held_take (i := 6) (v := (.tuple #[.int .i64 (h0 : Int), .bool bo])) rfl (by kernel_rfl) (by kernel_rfl) (by kernel_rfl) (fun _ _ _ h => h) (Or.inl ⟨by rfl, fun w' _ => by kernel_rfl⟩) hHeld ?_
  go_frame
  refine held_take (i := 7) (v := (.int .i64 (h0 : Int))) rfl (by kernel_rfl) (by kernel_rfl) (by kernel_rfl) (fun _ _ _ h => h) (Or.inl ⟨by rfl, fun w' _ => by kernel_rfl⟩) hHeld ?_
  go_frame
  refine held_take (i := 8) (v := (.bool bo)) rfl (by kernel_rfl) (by kernel_rfl) (by kernel_rfl) (fun _ _ _ h => h) (Or.inl ⟨by rfl, fun w' _ => by kernel_rfl⟩) hHeld ?_
  go_frame
  refine held_take (i := 9) (v := (.int .i64 (h0 : Int))) rfl (by kernel_rfl) (by kernel_rfl) (by kernel_rfl) (fun _ _ _ h => h) (Or.inl ⟨by rfl, fun w' _ => by kernel_rfl⟩) hHeld ?_
  go_frame
  refine held_take (i := 10) (v := (.bool bo)) rfl (by kernel_rfl) (by kernel_rfl) (by kernel_rfl) (fun _ _ _ h => h) (Or.inl ⟨by rfl, fun w' _ => by kernel_rfl⟩) hHeld ?_
  go_frame
  refine wpAnyH_done (by kernel_rfl) ?_ _
  obtain ⟨w2, hw2⟩ : ∃ w2, w2 = v1 := ⟨_, rfl⟩
  rw [← hw2] at  hHeld ⊢
  clear hw2
  have B2 := Lib.hid (B1.out.trans (hHeld.mono B1.out.size))
  have F2 := Lib.hid (row_below F3.out hHeld)
  clear hHeld B1 F3
  by_cases z : h0 = 0
  · subst z
    go_wp2_with fail
    go_ret
    exact ⟨B, HM.out.below B2.out, BtR.below B2.out, Or.inl ⟨HEQ.out, rfl, rfl⟩⟩
  have z' : ¬ ((h0 : Int) = 0) := by omega
  go_upto_region 4 with fail
  clear z'
  go_wp2_with ((with_reducible show wpList _ _ _ _ _ _); (refine wpList_load_row rfl 26 (.tmp 3) rfl g3 rfl 26 (id.map bV).toArray (0, 0) _ F2.out Tryz.underlying26 rfl (by rw [SC.out]; kernel_rfl) ?_; go_frame))
  refine (IS.out w2 B2.out).mono ?_
  rintro e w3 ⟨rfl, bb⟩
  have B3 := Lib.hid (B2.out.trans (bb.mono B2.out.size))
  have F3 := Lib.hid (row_below F2.out bb)
  clear bb F2 B2
  cases im with
  | true =>
    go_wp2_with fail
    go_ret
    exact ⟨B, HM.out.below B3.out, BtR.below B3.out, Or.inr ⟨by have := HEQ.out; omega, rfl, Or.inl ⟨IM.out.symm, rfl⟩⟩⟩
  | false =>
    go_upto_region 6 with fail
    refine wp_region_held_drew (S := (fun w' => Below w3.heap.size w3 w')) (by kernel_rfl) (Below.drew (Below.refl _ _)) (fun hHeld => ?_)
    generalize hwd : w3.drew = wd at  hHeld ⊢
    clear hwd
    refine held_take (i := 0) (v := (.pointer (some ⟨b, 0, none⟩))) rfl (by kernel_rfl) (by kernel_rfl) (by kernel_rfl) (fun _ _ _ h => h) (Or.inl ⟨by rfl, fun w' _ => by kernel_rfl⟩) hHeld ?_
    go_frame
    refine held_take (i := 1) (v := (.pointer (some ⟨b, 0, none⟩))) rfl (by kernel_rfl) (by kernel_rfl) (by kernel_rfl) (fun _ _ _ h => h) (Or.inl ⟨by rfl, fun w' _ => by kernel_rfl⟩) hHeld ?_
    go_frame
    refine held_take (i := 2) (v := (.pointer (some ⟨b, 0, none⟩))) rfl (by kernel_rfl) (by kernel_rfl) (by kernel_rfl) (fun _ _ _ h => h) (Or.inl ⟨by rfl, fun w' _ => by kernel_rfl⟩) hHeld ?_
    go_frame
    refine held_take (i := 3) (v := (.pointer (some ⟨tb, 0, none⟩))) rfl (by kernel_rfl) (by kernel_rfl) (by kernel_rfl) (fun _ _ _ h => h) (yieldsIf_load_one (by rfl) 33 (.tmp 25) rfl b (0) rfl _ _ (fun w' hw' => cell_below CE.out.1 (B3.out.trans (hw'.mono B3.out.size))) Tryz.underlying33 rfl) hHeld ?_
    go_frame
    refine held_take (i := 4) (v := (.agg (id.map bV).toArray)) rfl (by kernel_rfl) (by kernel_rfl) (by kernel_rfl) (fun _ _ _ h => h) (yieldsIf_load_row (by rfl) 26 (.tmp 3) rfl g3 rfl 26 (id.map bV).toArray (0, 0) _ (fun w' hw' => row_below F3.out hw') Tryz.underlying26 rfl (by rw [SC.out]; kernel_rfl)) hHeld ?_
    go_frame
    refine held_take (i := 7) (v := (.int .i64 0)) rfl (by kernel_rfl) (by kernel_rfl) (by kernel_rfl) (fun _ _ _ h => h) (Or.inl ⟨by rfl, fun w' _ => by kernel_rfl⟩) hHeld ?_
    go_frame
    refine wpAnyH_ready (rs := [5]) (by kernel_rfl) (by simp) (held_cons rfl (fun K hK => ?_) AllReadyH.nil)
    go_simp
    refine (UN.out _ (B3.out.trans (hHeld.mono B3.out.size))).mono ?_
    rintro e v1 ⟨bb, vs, l, rfl, hat, hp, _, hty⟩
    obtain ⟨sp, cap, rfl⟩ := hat.shape
    obtain ⟨n, hn⟩ : ∃ n, n = l.length := ⟨_, rfl⟩
    rw [← hn] at hat hty ⊢
    have HS0 : Hid (HsT v1 (.slice sp n cap) l) := ⟨hat, hty⟩
    have HPM := Lib.hid hp
    have HN := Lib.hid hn
    clear hat hp hty hn
    have hv1 := hHeld.trans (bb.mono hHeld.size)
    clear bb hHeld
    go_wp2_with fail
    refine hK.out _ _ hv1 (fun hHeld => ?_)
    clear hK K hv1
    refine held_take (i := 6) (v := (.int .i64 (n : Int))) rfl (by kernel_rfl) (by kernel_rfl) (by kernel_rfl) (fun _ _ _ h => h) (Or.inl ⟨by rfl, fun w' _ => by go_simp⟩) hHeld ?_
    go_frame
    refine wpAnyH_done (by kernel_rfl) ?_ _
    obtain ⟨w4, hw4⟩ : ∃ w4, w4 = v1 := ⟨_, rfl⟩
    rw [← hw4] at HS0 hHeld ⊢
    clear hw4
    have B4 := Lib.hid (B3.out.trans (hHeld.mono B3.out.size))
    have F34 := Lib.hid (row_below F3.out hHeld)
    clear hHeld UN IS B3 F3 HG
    have NB : Hid (n ≤ 4096) := by
      have h1 := HPM.out.length_eq
      have h2 := HN.out
      have h3 := NL.out
      show _ ≤ _
      omega
    go_wp2_with fail
    go_loopw [30] (fun v wr => BdInv base b tb bm mm lv B Mt d l (.slice sp n cap) id g3 w v wr) (fun v _ => n - (intOf v).toNat)
    case atStart => exact ⟨0, B, rfl, Nat.zero_le _, HM.out.below B4.out, fun q => by simp, BtR.below B4.out, HS0.out, F34.out⟩
    case round =>
      clear HS0 B4 F34
      obtain ⟨k, Bk, rfl, hk, hma, hgb, hrr, hhs, hfk⟩ := hrel
      have MA := Lib.hid hma
      have GB := Lib.hid hgb
      have RK := Lib.hid hrr
      have HSK := Lib.hid hhs
      have FK := Lib.hid hfk
      have KL := Lib.hid hk
      clear hma hgb hrr hhs hfk hk
      by_cases hlt : k < n
      · obtain ⟨x, hx⟩ : ∃ x, l[k]? = some x := ⟨_, List.getElem?_eq_getElem (by have := HN.out; omega)⟩
        obtain ⟨gs, os, rfl, hrx, lx⟩ := hs_at HSK.out hx
        have XK := Lib.hid hx
        have RX := Lib.hid hrx
        have LX := Lib.hid lx
        have LXB : Hid ((x.map bV).length = 32) := by show _ = _; rw [List.length_map]; exact lx
        have SX : Hid ((x.map bV).toArray.size = 32) := by show _ = _; rw [List.size_toArray]; exact LXB.out
        have AX : Hid ((x.map bV).toArray.all (·.oneCell') = true) := bV_one _
        have q0 : (k : Int) < (n : Int) := by omega
        clear hx hrx lx
        go_upto_region 9 with ((with_reducible show wpList _ _ _ _ _ _); first | (refine wpList_load_mid rfl 26 (.tmp 32) rfl gs (os + k * 32) rfl (x.map bV) _ RX.out Tryz.underlying26 rfl (by rw [LXB.out]; kernel_rfl) ?_; go_frame) | (refine wpList_store_row rfl 26 (.tmp 8) (.tmp 33) rfl wr.heap.size (x.map bV).toArray rfl rfl 26 _ (heap_alloc_new _ _) (by rw [SX.out]; kernel_rfl) (by rw [SX.out]; rfl) AX.out ?_; go_frame))
        obtain ⟨_, f2, f3, f4⟩ := fill_setup (Below.refl wr.heap.size wr) (List.replicate 32 (bV 0)).toArray (x.map bV).toArray 26
        generalize hqw7 : World.setRow _ _ _ = w7
        have ew7 : World.setRow (wr.alloc (.cells (List.replicate 32 (bV 0)).toArray 26)) wr.heap.size (x.map bV).toArray = w7 := hqw7
        rw [ew7] at f2 f3 f4
        obtain ⟨g8, hg8⟩ : ∃ g8, g8 = wr.heap.size := ⟨_, rfl⟩
        rw [← hg8] at f2 ⊢
        have F8 := Lib.hid f2
        have Ng8 : Hid (wr.heap.size ≤ g8) := by show _ ≤ _; rw [hg8]; exact Nat.le_refl _
        have MA7 := Lib.hid (MA.out.below f4)
        have HS7 := Lib.hid (HSK.out.below f4)
        have F37 := Lib.hid (row_below FK.out f4)
        have R7 := Lib.hid (RK.out.trans (BtR.below f4))
        clear f2 f3 f4 hqw7 ew7 hg8
        clear MA HSK FK RK Ng8 q0
        refine wp_region_end (fun w' => Below w7.heap.size w7 w') [5] (by kernel_rfl) (Below.drew (Below.refl _ _)) (fun hHeld => ?_)
        generalize hwd : w7.drew = wd at  hHeld ⊢
        clear hwd
        refine end_take (i := 0) (v := (.pointer (some ⟨b, 0, none⟩))) rfl (by kernel_rfl) (by kernel_rfl) (by kernel_rfl) (by kernel_rfl) (fun _ _ _ h => h) (Or.inl ⟨by rfl, fun w' _ => by kernel_rfl⟩) hHeld ?_
        go_frame
        refine end_take (i := 1) (v := (.pointer (some ⟨b, 0, none⟩))) rfl (by kernel_rfl) (by kernel_rfl) (by kernel_rfl) (by kernel_rfl) (fun _ _ _ h => h) (Or.inl ⟨by rfl, fun w' _ => by kernel_rfl⟩) hHeld ?_
        go_frame
        refine end_take (i := 2) (v := (.pointer (some ⟨b, 1, none⟩))) rfl (by kernel_rfl) (by kernel_rfl) (by kernel_rfl) (by kernel_rfl) (fun _ _ _ h => h) (Or.inl ⟨by rfl, fun w' _ => by kernel_rfl⟩) hHeld ?_
        go_frame
        refine end_take (i := 3) (v := (.map (some bm))) rfl (by kernel_rfl) (by kernel_rfl) (by kernel_rfl) (by kernel_rfl) (fun _ _ _ h => h) (yieldsIf_load_one (by rfl) 74 (.tmp 36) rfl b (1) rfl _ _ (fun w' hw' => (MA7.out.below hw').cells.2.1) Tryz.underlying74 rfl) hHeld ?_
        go_frame
        refine end_take (i := 4) (v := (.agg (x.map bV).toArray)) rfl (by kernel_rfl) (by kernel_rfl) (by kernel_rfl) (by kernel_rfl) (fun _ _ _ h => h) (yieldsIf_load_row (by rfl) 26 (.tmp 8) rfl g8 rfl 26 (x.map bV).toArray (0, 0) _ (fun w' hw' => row_below F8.out hw') Tryz.underlying26 rfl (by rw [SX.out]; kernel_rfl)) hHeld ?_
        go_frame
        refine end_last (i := 5) (by kernel_rfl) (by kernel_rfl) rfl (fun K hK => ?_)
        rw [if_pos (by rfl)]
        have MA8 := Lib.hid (MA7.out.below hHeld)
        have HS8 := Lib.hid (HS7.out.below hHeld)
        have F38 := Lib.hid (row_below F37.out hHeld)
        have R8 := Lib.hid (R7.out.trans (BtR.below hHeld))
        refine wp_delete_gm mty_ids (.tmp 37) (.tmp 38) rfl x LX.out rfl rfl MA8.out.bad ?_
        intro v1 q1 q2
        have MA9 := Lib.hid (MA8.out.bads q1 q2)
        have HS9 := Lib.hid (HS8.out.grownMap MA8.out.bad q2)
        have F39 := Lib.hid (row_map MA8.out.bad q2 F38.out)
        have R9 := Lib.hid (R8.out.trans (BtR.grown q2 MA8.out.lo.2.1 (Or.inl rfl)))
        clear q1 q2 hHeld MA8 HS8 F38 R8
        go_frame
        refine hK.out _ _ ?_
        clear hK K
        refine end_done (by kernel_rfl) ?_ _
        have kle : k ≤ 4096 := by have := NB.out; omega
        go_wp2_with fail
        go_roundw
        case rel =>
          refine ⟨k + 1, _, by go_num, by have := HN.out; omega, MA9.out, fun q => ?_, R9.out, HS9.out, F39.out⟩
          rw [getG_del, take_succ XK.out, GB.out]
          by_cases e : q = x
          · rw [if_pos e, if_pos (by rw [e]; simp)]
          · rw [if_neg e]
            simp [e]
        case measure => simp [intOf]; omega
      · have q0 : ¬ ((k : Int) < (n : Int)) := by omega
        go_upto_region 11 with fail
        clear q0
        refine wp_region_end (fun w' => Below wr.heap.size wr w') [6] (by kernel_rfl) (Below.drew (Below.refl _ _)) (fun hHeld => ?_)
        generalize hwd : wr.drew = wd at  hHeld ⊢
        clear hwd
        refine end_take (i := 0) (v := (.pointer (some ⟨b, 0, none⟩))) rfl (by kernel_rfl) (by kernel_rfl) (by kernel_rfl) (by kernel_rfl) (fun _ _ _ h => h) (Or.inl ⟨by rfl, fun w' _ => by kernel_rfl⟩) hHeld ?_
        go_frame
        refine end_take (i := 1) (v := (.pointer (some ⟨b, 0, none⟩))) rfl (by kernel_rfl) (by kernel_rfl) (by kernel_rfl) (by kernel_rfl) (fun _ _ _ h => h) (Or.inl ⟨by rfl, fun w' _ => by kernel_rfl⟩) hHeld ?_
        go_frame
        refine end_take (i := 2) (v := (.pointer (some ⟨b, 1, none⟩))) rfl (by kernel_rfl) (by kernel_rfl) (by kernel_rfl) (by kernel_rfl) (fun _ _ _ h => h) (Or.inl ⟨by rfl, fun w' _ => by kernel_rfl⟩) hHeld ?_
        go_frame
        refine end_take (i := 3) (v := (.map (some bm))) rfl (by kernel_rfl) (by kernel_rfl) (by kernel_rfl) (by kernel_rfl) (fun _ _ _ h => h) (yieldsIf_load_one (by rfl) 74 (.tmp 42) rfl b (1) rfl _ _ (fun w' hw' => (MA.out.below hw').cells.2.1) Tryz.underlying74 rfl) hHeld ?_
        go_frame
        refine end_take (i := 4) (v := (.agg (id.map bV).toArray)) rfl (by kernel_rfl) (by kernel_rfl) (by kernel_rfl) (by kernel_rfl) (fun _ _ _ h => h) (yieldsIf_load_row (by rfl) 26 (.tmp 3) rfl g3 rfl 26 (id.map bV).toArray (0, 0) _ (fun w' hw' => row_below FK.out hw') Tryz.underlying26 rfl (by rw [SC.out]; kernel_rfl)) hHeld ?_
        go_frame
        refine end_take (i := 5) (v := (.agg #[])) rfl (by kernel_rfl) (by kernel_rfl) (by kernel_rfl) (by kernel_rfl) (fun _ _ _ h => h) (yieldsIf_build (by rfl) 96 _ rfl [] (by kernel_rfl) #[] (by kernel_rfl)) hHeld ?_
        go_frame
        refine end_last (i := 6) (by kernel_rfl) (by kernel_rfl) rfl (fun K hK => ?_)
        rw [if_pos (by rfl)]
        have MA8 := Lib.hid (MA.out.below hHeld)
        have R8 := Lib.hid (RK.out.trans (BtR.below hHeld))
        refine wp_put_gm mty_ids (.tmp 43) (.tmp 44) (.tmp 45) rfl id LI.out () rfl rfl rfl MA8.out.bad ?_
        intro v1 q1 q2
        have MA9 := Lib.hid (MA8.out.bads q1 q2)
        have R9 := Lib.hid (R8.out.trans (BtR.grown q2 MA8.out.lo.2.1 (Or.inl rfl)))
        clear q1 q2 hHeld MA8 R8
        go_frame
        refine hK.out _ _ ?_
        clear hK K
        refine end_done (by kernel_rfl) ?_ _
        go_wp2_with fail
        go_ret
        refine ⟨_, MA9.out, R9.out, Or.inr ⟨by have := HEQ.out; omega, rfl, Or.inr ⟨IM.out.symm, l, HPM.out, ⟨fun q => ?_⟩⟩⟩⟩
        rw [getG_put, GB.out, List.take_of_length_le (by have := HN.out; omega)]
end Go.Proofs.YtdhcjaflbfpalaaGreatDoor.Sha

/-
  New marks over a tree; which of two blocks counts more. Nothing that was there turns. Conditions: the marks lie where the pointer says, over a tree.
-/
namespace Go.Proofs.YtdhcjaflbfpalaaGreatDoor.Sha
open Go Go.RowKit
theorem MkAt.lower {w : World} {base base' b tb bm mm : Nat} {lv : Value} {B Mt : IdSet} {d : Array Rk} (h : MkAt w base b tb bm mm lv B Mt d) (hb : base' ≤ base) : MkAt w base' b tb bm mm lv B Mt d := by
  refine ⟨h.box, h.bad, h.met, ⟨⟨h.row.1.1, ?_⟩, h.row.2⟩, h.ne, Nat.le_trans hb h.lo.1, Nat.le_trans hb h.lo.2.1, Nat.le_trans hb h.lo.2.2⟩
  rcases h.row.1.2 with h0 | ⟨g, cap, cur, h1, h2, h3⟩
  · exact .inl h0
  · exact .inr ⟨g, cap, cur, h1, Nat.le_trans hb h2, h3⟩
set_option maxHeartbeats 1000000 in
set_option maxRecDepth 100000 in
theorem bknew_any (w : World) (tb : Nat) :
    Calls Tryz.prog 9 #[(.pointer (some ⟨tb, 0, none⟩))] w fun e w' => ∃ b bm mm, e = .returned (.pointer (some ⟨b, 0, none⟩)) ∧ MkAt w' w.heap.size b tb bm mm (.slice none 0 0) [] [] #[] ∧ Below w.heap.size w w' := by
  have hmm := @run_makeMap Tryz.prog
  go_enter Tryz.func9, Tryz.ntmps9
  go_wp2
  go_ret
  have b1 := (Below.refl w.heap.size w).alloc (Nat.le_refl _) (.map #[] 0)
  have b2 := b1.alloc (by simp) (.map #[] 0)
  have b3 := b2.alloc (by simp only [World.size_alloc]; omega) (.cells (mkL tb w.heap.size (w.heap.size + 1) (.slice none 0 0)).toArray 83 (0, 0))
  have m1 : MpAt hK unV (fun h => h.length = 32) (w.alloc (.map #[] 0)) w.heap.size [] := gm_made w
  have m2 : MpAt hK unV (fun h => h.length = 32) ((w.alloc (.map #[] 0)).alloc (.map #[] 0)) (w.alloc (.map #[] 0)).heap.size [] := gm_made _
  rw [World.size_alloc] at m2
  have f3 := heap_alloc_new ((w.alloc (.map #[] 0)).alloc (.map #[] 0)) (.cells (mkL tb w.heap.size (w.heap.size + 1) (.slice none 0 0)).toArray 83 (0, 0))
  rw [World.size_alloc, World.size_alloc] at f3
  exact ⟨w.heap.size + 1 + 1, w.heap.size, w.heap.size + 1, rfl, ⟨f3, (m1.below ((Below.refl _ _).alloc (Nat.le_refl _) _)).below ((Below.refl _ _).alloc (Nat.le_refl _) _), m2.below ((Below.refl _ _).alloc (Nat.le_refl _) _), RwOwn.nil _ _ _ _, by omega, by omega, by omega, by omega⟩, b3⟩
def overL (L : List TNd) (x y : OH) : Bool := (ofT L x.1).2.2.2 && ((ofT L y.1).2.2.2 && overK (rnkT L x) (rnkT L y))
set_option maxHeartbeats 3000000 in
set_option maxRecDepth 100000 in
theorem bkovr_any (w : World) (base b tb bm mm tbase tm : Nat) (lv : Value) (B Mt : IdSet) (d : Array Rk) (M : List CNd) (x y : OH) (hm : MkAt w base b tb bm mm lv B Mt d) (ht : CtAt w tbase tb tm M) (tr : TrL (ndM M)) :
    Calls Tryz.prog 22 #[(.pointer (some ⟨b, 0, none⟩)), .agg (x.1.map bV).toArray, .agg (y.1.map bV).toArray] w fun e w' => e = .returned (.bool (overL (ndM M) x y)) ∧ Below w.heap.size w w' := by
  have RK : Hid (∀ (q : OH) W, Below w.heap.size w W → Calls Tryz.prog 44 #[(.pointer (some ⟨b, 0, none⟩)), .agg (q.1.map bV).toArray] W fun e w' => e = .returned (.tuple #[.agg (rkL (rnkT (ndM M) q)).toArray, .bool (ofT (ndM M) q.1).2.2.2]) ∧ Below W.heap.size W w') := fun q W hW => bkrank_any W base b tb bm mm tbase tm lv B Mt d M q (hm.below hW) (ht.below hW) tr
  have R1 : Hid (∀ W, Below w.heap.size w W → Calls Tryz.prog 44 #[(.pointer (some ⟨b, 0, none⟩)), .agg (x.1.map bV).toArray] W fun e w' => e = .returned (.tuple #[.agg (rkL (rnkT (ndM M) x)).toArray, .bool (ofT (ndM M) x.1).2.2.2]) ∧ Below W.heap.size W w') := RK.out x
  have R2 : Hid (∀ W, Below w.heap.size w W → Calls Tryz.prog 44 #[(.pointer (some ⟨b, 0, none⟩)), .agg (y.1.map bV).toArray] W fun e w' => e = .returned (.tuple #[.agg (rkL (rnkT (ndM M) y)).toArray, .bool (ofT (ndM M) y.1).2.2.2]) ∧ Below W.heap.size W w') := RK.out y
  have OV : Hid (∀ W, Calls Tryz.prog 33 #[.agg (rkL (rnkT (ndM M) x)).toArray, .agg (rkL (rnkT (ndM M) y)).toArray] W fun e w' => e = .returned (.bool (overK (rnkT (ndM M) x) (rnkT (ndM M) y))) ∧ Below W.heap.size W w') := fun W => bkover_any _ _ W
  have OE : Hid (overL (ndM M) x y = ((ofT (ndM M) x.1).2.2.2 && ((ofT (ndM M) y.1).2.2.2 && overK (rnkT (ndM M) x) (rnkT (ndM M) y)))) := rfl
  obtain ⟨o, ho⟩ : ∃ o, o = overL (ndM M) x y := ⟨_, rfl⟩
  rw [← ho] at OE ⊢
  obtain ⟨k, hk⟩ : ∃ k, k = overK (rnkT (ndM M) x) (rnkT (ndM M) y) := ⟨_, rfl⟩
  rw [← hk] at OV OE
  obtain ⟨p, hp⟩ : ∃ p, p = (ofT (ndM M) x.1).2.2.2 := ⟨_, rfl⟩
  rw [← hp] at R1 OE
  obtain ⟨q, hq⟩ : ∃ q, q = (ofT (ndM M) y.1).2.2.2 := ⟨_, rfl⟩
  rw [← hq] at R2 OE
  have SR : Hid ((rkL (rnkT (ndM M) x)).toArray.size = 33) := rkL_size _
  have SS : Hid ((rkL (rnkT (ndM M) y)).toArray.size = 33) := rkL_size _
  have AR : Hid ((rkL (rnkT (ndM M) x)).toArray.all (·.oneCell') = true) := rkL_all _
  have AS : Hid ((rkL (rnkT (ndM M) y)).toArray.all (·.oneCell') = true) := rkL_all _
  obtain ⟨cr, hcr⟩ : ∃ cr, cr = rkL (rnkT (ndM M) x) := ⟨_, rfl⟩
  rw [← hcr] at R1 OV SR AR
  obtain ⟨cs, hcs⟩ : ∃ cs, cs = rkL (rnkT (ndM M) y) := ⟨_, rfl⟩
  rw [← hcs] at R2 OV SS AS
  have SX : Hid ((x.1.map bV).toArray.size = 32) := by show _ = _; rw [List.size_toArray, List.length_map]; exact x.2
  have SY : Hid ((y.1.map bV).toArray.size = 32) := by show _ = _; rw [List.size_toArray, List.length_map]; exact y.2
  obtain ⟨cx, hcx⟩ : ∃ cx, cx = x.1.map bV := ⟨_, rfl⟩
  rw [← hcx] at R1 SX ⊢
  obtain ⟨cy, hcy⟩ : ∃ cy, cy = y.1.map bV := ⟨_, rfl⟩
  rw [← hcy] at R2 SY ⊢
  clear hm ht tr RK ho hk hp hq hcr hcs hcx hcy
  go_enter Tryz.func22, Tryz.ntmps22
  go_upto_region 1 with fail
  have f0 := row_below (heap_alloc_new w (.cells cx.toArray 26 (0, 0))) ((Below.refl _ _).alloc (Nat.le_refl _) (.cells cy.toArray 26 (0, 0)))
  have f1 := heap_alloc_new (w.alloc (.cells cx.toArray 26 (0, 0))) (.cells cy.toArray 26 (0, 0))
  have bb : Below w.heap.size w ((w.alloc (.cells cx.toArray 26 (0, 0))).alloc (.cells cy.toArray 26 (0, 0))) := (((Below.refl w.heap.size w).alloc (by first | exact Nat.le_refl _ | (simp only [World.size_alloc]; omega)) (.cells cx.toArray 26 (0, 0))).alloc (by first | exact Nat.le_refl _ | (simp only [World.size_alloc]; omega)) (.cells cy.toArray 26 (0, 0)))
  simp only [World.size_alloc] at f1
  generalize hq : World.alloc _ _ = w1
  have eq : (w.alloc (.cells cx.toArray 26 (0, 0))).alloc (.cells cy.toArray 26 (0, 0)) = w1 := hq
  rw [eq] at f0 f1 bb
  obtain ⟨gy, hgy⟩ : ∃ gy, gy = w.heap.size + 1 := ⟨_, rfl⟩
  have Ggy : Hid (w.heap.size ≤ gy) := by show _ ≤ _; omega
  rw [← hgy] at f1 ⊢
  obtain ⟨gx, hgx⟩ : ∃ gx, gx = w.heap.size := ⟨_, rfl⟩
  have Ggx : Hid (w.heap.size ≤ gx) := by show _ ≤ _; omega
  rw [← hgx] at f0 ⊢
  have FX := Lib.hid f0
  have FY := Lib.hid f1
  have B1 := Lib.hid bb
  clear f0 f1 bb hq eq hgx hgy
  go_wp2_with ((with_reducible show wpList _ _ _ _ _ _); (refine wpList_load_row rfl 26 (.tmp 4) rfl gx rfl 26 cx.toArray (0, 0) _ FX.out Tryz.underlying26 rfl (by rw [SX.out]; kernel_rfl) ?_; go_frame))
  refine (R1.out w1 B1.out).mono ?_
  rintro e w2 ⟨rfl, bb⟩
  have B2 := Lib.hid (B1.out.trans (bb.mono B1.out.size))
  have FY2 := Lib.hid (row_below FY.out bb)
  clear bb FX FY B1 R1
  go_upto_region 2 with ((with_reducible show wpList _ _ _ _ _ _); (refine wpList_store_row rfl 78 (.tmp 7) (.tmp 15) rfl w2.heap.size cr.toArray rfl rfl 78 _ (heap_alloc_new _ _) (by rw [SR.out]; kernel_rfl) (by rw [SR.out]; rfl) AR.out ?_; go_frame))
  obtain ⟨_, f2, f3, f4⟩ := fill_setup (Below.refl w2.heap.size w2) (Value.int .u64 0 :: List.replicate 32 (bV 0)).toArray cr.toArray 78
  generalize hqw3 : World.setRow _ _ _ = w3
  have ew3 : World.setRow (w2.alloc (.cells (Value.int .u64 0 :: List.replicate 32 (bV 0)).toArray 78)) w2.heap.size cr.toArray = w3 := hqw3
  rw [ew3] at f2 f3 f4
  obtain ⟨g7, hg7⟩ : ∃ g7, g7 = w2.heap.size := ⟨_, rfl⟩
  rw [← hg7] at f2 ⊢
  have F7 := Lib.hid f2
  have Ng7 : Hid (w2.heap.size ≤ g7) := by show _ ≤ _; rw [hg7]; exact Nat.le_refl _
  have B3 := Lib.hid (B2.out.trans (f4.mono B2.out.size))
  have FY3 := Lib.hid (row_below FY2.out f4)
  clear f2 f3 f4 hqw3 ew3 hg7
  clear B2 FY2 Ng7
  go_wp2_with ((with_reducible show wpList _ _ _ _ _ _); (refine wpList_load_row rfl 26 (.tmp 5) rfl gy rfl 26 cy.toArray (0, 0) _ FY3.out Tryz.underlying26 rfl (by rw [SY.out]; kernel_rfl) ?_; go_frame))
  refine (R2.out w3 B3.out).mono ?_
  rintro e w4 ⟨rfl, bb⟩
  have B4 := Lib.hid (B3.out.trans (bb.mono B3.out.size))
  have F74 := Lib.hid (row_below F7.out bb)
  clear bb F7 B3 R2 FY3
  go_upto_region 3 with ((with_reducible show wpList _ _ _ _ _ _); (refine wpList_store_row rfl 78 (.tmp 9) (.tmp 21) rfl w4.heap.size cs.toArray rfl rfl 78 _ (heap_alloc_new _ _) (by rw [SS.out]; kernel_rfl) (by rw [SS.out]; rfl) AS.out ?_; go_frame))
  obtain ⟨_, f2, f3, f4⟩ := fill_setup (Below.refl w4.heap.size w4) (Value.int .u64 0 :: List.replicate 32 (bV 0)).toArray cs.toArray 78
  generalize hqw5 : World.setRow _ _ _ = w5
  have ew5 : World.setRow (w4.alloc (.cells (Value.int .u64 0 :: List.replicate 32 (bV 0)).toArray 78)) w4.heap.size cs.toArray = w5 := hqw5
  rw [ew5] at f2 f3 f4
  obtain ⟨g9, hg9⟩ : ∃ g9, g9 = w4.heap.size := ⟨_, rfl⟩
  rw [← hg9] at f2 ⊢
  have F9 := Lib.hid f2
  have Ng9 : Hid (w4.heap.size ≤ g9) := by show _ ≤ _; rw [hg9]; exact Nat.le_refl _
  have B5 := Lib.hid (B4.out.trans (f4.mono B4.out.size))
  have F75 := Lib.hid (row_below F74.out f4)
  clear f2 f3 f4 hqw5 ew5 hg9
  clear B4 F74 Ng9
  cases p with
  | false =>
    go_wp2_with fail
    go_ret
    exact ⟨by rw [OE.out]; rfl, B5.out⟩
  | true =>
    cases q with
    | false =>
      go_wp2_with fail
      go_ret
      exact ⟨by rw [OE.out]; rfl, B5.out⟩
    | true =>
      go_wp2_with ((with_reducible show wpList _ _ _ _ _ _); first | (refine wpList_load_rowG 78 (.tmp 7) rfl g7 rfl 78 cr.toArray (0, 0) _ F75.out Tryz.underlying78 rfl (by rw [SR.out]; kernel_rfl) rfl ?_; go_frame) | (refine wpList_load_rowG 78 (.tmp 9) rfl g9 rfl 78 cs.toArray (0, 0) _ F9.out Tryz.underlying78 rfl (by rw [SS.out]; kernel_rfl) rfl ?_; go_frame))
      refine (OV.out w5).mono ?_
      rintro e w6 ⟨rfl, bb⟩
      go_wp2_with fail
      go_ret
      exact ⟨by rw [OE.out]; rfl, B5.out.trans (bb.mono B5.out.size)⟩
end Go.Proofs.YtdhcjaflbfpalaaGreatDoor.Sha
