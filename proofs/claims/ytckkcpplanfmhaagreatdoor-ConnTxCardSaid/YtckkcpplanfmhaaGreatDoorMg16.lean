/-
  Texts of this proof joined into one file: CnRefAdd, CnRefGet, UdApply, ApPerm, RapSt, SqM, SqMax, SqNeed, SqM2. What each holds, and under which conditions, its own first sentence tells.
-/
import Derived.Lib.BufferRead
import Derived.Test.YtckkcpplanfmhaaGreatDoorMg07
import Derived.Test.YtckkcpplanfmhaaGreatDoorMg03
import Derived.Test.YtckkcpplanfmhaaGreatDoorMg14
import Derived.Test.YtckkcpplanfmhaaGreatDoorMg06
import Derived.Test.YtckkcpplanfmhaaGreatDoorMg05
import Derived.Test.YtckkcpplanfmhaaGreatDoorMg01
import Derived.Test.YtckkcpplanfmhaaGreatDoorMg11
import Derived.Test.YtckkcpplanfmhaaGreatDoorMg04
import Derived.Test.YtckkcpplanfmhaaGreatDoorMg08
/-
  The statements' own set: a coin is added; its box alone turns. Conditions: the set lies where the pointer says, in order, at most 2^20 coins; a place, a coin as the model has them.
-/
namespace Go.Proofs.YtckkcpplanfmhaaGreatDoor.Sha
open Go Go.RowKit
section
variable {L : List TSp} {p : TPt}
theorem ins_sorted {x : TSp} (hs : SortedC L) (ho : ∀ y ∈ L, SpOk y) (hx : SpOk x) {k : Nat} (hr : Rank L x.at_ k) (hn : getC L x.at_ = none) : SortedC (L.take k ++ [x] ++ L.drop k) := by
  have hs' : (L.take k ++ L.drop k).Pairwise (fun x y => ltSp x y = true) := by rw [List.take_append_drop]; exact hs
  obtain ⟨h1, h2, h3⟩ := List.pairwise_append.1 hs'
  have hlo : ∀ y ∈ L.take k, ltSp y x = true := fun y hy => by
    obtain ⟨i, hi⟩ := List.getElem?_of_mem hy
    have hlt := (List.getElem?_eq_some_iff.1 hi).1
    rw [List.length_take] at hlt
    rw [List.getElem?_take_of_lt (by omega)] at hi
    exact hr.2.1 i y hi (by omega)
  have hhi : ∀ y ∈ L.drop k, ltSp x y = true := fun y hy => by
    obtain ⟨i, hi⟩ := List.getElem?_of_mem hy
    rw [List.getElem?_drop] at hi
    have h4 := hr.2.2 (k + i) y hi (by omega)
    exact ltSp_total (ho y (List.mem_of_mem_drop hy)) hx (getC_ne hn y (List.mem_of_mem_drop hy)) h4
  refine List.pairwise_append.2 ⟨List.pairwise_append.2 ⟨h1, List.pairwise_singleton _ _, fun y hy z hz => ?_⟩, h2, fun y hy z hz => ?_⟩
  · rw [List.mem_singleton.1 hz]
    exact hlo y hy
  · rcases List.mem_append.1 hy with hy | hy
    · exact h3 y hy z hz
    · rw [List.mem_singleton.1 hy]
      exact hhi z hz
theorem ins_perm (x : TSp) (k : Nat) : (L.take k ++ [x] ++ L.drop k).Perm (L ++ [x]) := by
  have h : (L.take k ++ [x] ++ L.drop k).Perm (L.take k ++ (L.drop k ++ [x])) := by
    rw [List.append_assoc]
    exact List.perm_append_comm.append_left _
  refine h.trans ?_
  rw [← List.append_assoc, List.take_append_drop]
theorem getC_mem {l : List TSp} {c : TMn} (h : getC l p = some c) : ∃ x ∈ l, x.at_ = p ∧ x.coin = c := by
  unfold getC at h
  obtain ⟨x, hx, rfl⟩ := Option.map_eq_some_iff.1 h
  exact ⟨x, List.mem_of_find?_eq_some hx, by simpa using List.find?_some hx, rfl⟩
theorem getC_perm {l : List TSp} (hp : L.Perm l) (ha : L.Pairwise (fun x y => x.at_ ≠ y.at_)) : getC L p = getC l p := by
  cases h : getC l p with
  | none => exact getC_none fun x hx => getC_ne h x (hp.mem_iff.1 hx)
  | some c =>
    obtain ⟨x, hx, h1, rfl⟩ := getC_mem h
    obtain ⟨j, hj⟩ := List.getElem?_of_mem (hp.mem_iff.2 hx)
    exact getC_some ha hj h1
theorem addR_perm {l : List TSp} {c : TMn} (h : getC L p = getC l p) : addR L p c = addR l p c := by unfold addR; rw [h]
theorem addL_perm {l : List TSp} {c : TMn} (hp : L.Perm l) (h : getC L p = getC l p) : (addL L p c).Perm (addL l p c) := by
  unfold addL
  rw [addR_perm h]
  split
  · exact hp.append_right _
  · exact hp
end
theorem rank_get {L : List TSp} {p : TPt} (hs : SortedC L) {k : Nat} (hr : Rank L p k) (h : (getC L p).isSome = true) : ∃ x, L[k]? = some x ∧ x.at_ = p ∧ getC L p = some x.coin := by
  cases hg : getC L p with
  | none => rw [hg] at h; cases h
  | some c =>
    obtain ⟨x, hx, h1, rfl⟩ := getC_mem hg
    obtain ⟨j, hj⟩ := List.getElem?_of_mem hx
    have e := rank_there hs hr hj h1
    rw [e] at hj
    exact ⟨x, hj, h1, rfl⟩
theorem addL_zero' {l : List TSp} {p : TPt} {c : TMn} (h : addR l p c = 0) : addL l p c = l ++ [⟨p, c⟩] := by
  unfold addL
  rw [if_pos h]
/-- The row behind is the old one, or a new one. -/
def NewV (w : World) (v v' : Value) : Prop := v' = v ∨ ∀ b, v'.ownBlock = some b → w.heap.size ≤ b
set_option maxHeartbeats 4000000 in
set_option maxRecDepth 100000 in
theorem radd_n (w : World) (base a : Nat) (v : Value) (L : List TSp) (p : TPt) (c : TMn) (h : RefAt w base a v L) (hs : SortedC L) (ho : ∀ x ∈ L, SpOk x) (hp : PtOk p) (hc : MnOk c) (hn : L.length ≤ 1048576) (hbase : base ≤ w.heap.size) :
    Calls Tryz.prog 32 #[.pointer (some ⟨a, 0, none⟩), .agg (ptC p).toArray, .agg (mnL c).toArray] w fun e w' =>
      e = .returned (.int .i64 (numE (addR L p c))) ∧ ∃ v' L', L'.Perm (addL L p c) ∧ SortedC L' ∧ RefAt w' base a v' L' ∧ Kps (fun j => j ≠ a) w w' ∧ NewV w v v' := by
  obtain ⟨i0, hi, hz0, hz1, hz2⟩ := info_parts info_spent
  have HS := Lib.hid hs
  have OK := Lib.hid ho
  have HP := Lib.hid hp
  have HC := Lib.hid hc
  have NL := Lib.hid hn
  have BS0 := Lib.hid hbase
  have PSZ : Hid ((ptC p).toArray.size = 33) := ptC_size hp
  have CSZ : Hid ((mnL c).toArray.size = 35) := mnL_size hc
  have BT : Hid (Tryz.prog.built 84 [(0, .agg (ptC p).toArray), (1, .agg (mnL c).toArray)] = some (spL ⟨p, c⟩).toArray) := built_sp ⟨p, c⟩ ⟨hp, hc⟩
  have LX : Hid ((spL ⟨p, c⟩).length = 68) := spL_length (x := ⟨p, c⟩) ⟨hp, hc⟩
  have LO : Hid (∀ v ∈ spL ⟨p, c⟩, v.oneCell' = true) := spL_one _
  have AL : Hid (a < w.heap.size) := (Array.getElem?_eq_some_iff.1 h.box).1
  have HPL : Hid (∀ W, RefAt W base a v L → Calls Tryz.prog 38 #[.pointer (some ⟨a, 0, none⟩), .agg (ptC p).toArray] W fun e w' => ∃ k : Nat, e = .returned (.tuple #[.int .i64 (k : Int), .bool (getC L p).isSome]) ∧ Rank L p k ∧ Below W.heap.size W w') := fun W hW => rplace_any W base a v L p hW hs ho hp hn
  obtain ⟨vc, hvc⟩ : ∃ vc, vc = c.val := ⟨_, rfl⟩
  have VC := Lib.hid hvc
  have CV : Hid (∀ (W : World) (g : Nat), W.heap[g]? = some (.cells (mnL c).toArray 46 (0, 0)) → W.cell? ⟨g, 0, none⟩ = some (.int .u64 (vc : Int))) := fun W g hg => by
    rw [hvc]
    exact mn_val (range_of_box hg)
  have vcb : (vc : Int) ≤ 18446744073709551615 := by have := hc.2.1; omega
  obtain ⟨cp, hcp⟩ : ∃ cp, cp = ptC p := ⟨_, rfl⟩
  obtain ⟨cm, hcm⟩ : ∃ cm, cm = mnL c := ⟨_, rfl⟩
  obtain ⟨sx, hsx⟩ : ∃ sx, sx = spL ⟨p, c⟩ := ⟨_, rfl⟩
  rw [← hcp] at PSZ BT HPL ⊢
  rw [← hcm] at CSZ BT CV ⊢
  rw [← hsx] at BT LX LO
  have SX := Lib.hid hsx
  obtain ⟨sp, cap, rfl⟩ := h.at.shape
  rw [List.length_map] at h HPL
  obtain ⟨n, hnl⟩ : ∃ n, n = L.length := ⟨_, rfl⟩
  rw [← hnl] at h HPL
  have N := Lib.hid hnl
  have RA0 := Lib.hid h
  obtain ⟨r, hr⟩ : ∃ r, r = addR L p c := ⟨_, rfl⟩
  rw [← hr]
  have RR := Lib.hid hr
  clear hs ho hp hc hn hbase h hcp hcm hsx hnl hvc hr
  go_enter Tryz.func32, Tryz.ntmps32
  go_upto_region 1 with fail
  have f3 := row_below (heap_alloc_new w (.cells cp.toArray 50 (0, 0))) ((Below.refl _ _).alloc (Nat.le_refl _) (.cells cm.toArray 46 (0, 0)))
  have f4 := heap_alloc_new (w.alloc (.cells cp.toArray 50 (0, 0))) (.cells cm.toArray 46 (0, 0))
  have b0 := ((Below.refl w.heap.size w).alloc (Nat.le_refl _) (.cells cp.toArray 50 (0, 0))).alloc (by simp) (.cells cm.toArray 46 (0, 0))
  rw [World.size_alloc] at f4
  generalize hw1 : World.alloc _ _ = w1
  have e1 : (w.alloc (.cells cp.toArray 50 (0, 0))).alloc (.cells cm.toArray 46 (0, 0)) = w1 := hw1
  rw [e1] at f3 f4 b0
  obtain ⟨g4, hg4⟩ : ∃ g4, g4 = w.heap.size := ⟨_, rfl⟩
  rw [← hg4] at f3 f4 ⊢
  have F4 := Lib.hid f3
  have F5 := Lib.hid f4
  have B1 := Lib.hid b0
  have RA1 := Lib.hid (RA0.out.below b0)
  have cv := CV.out _ _ f4
  clear f3 f4 b0 hw1 e1 hg4 RA0
  by_cases hbig : 2100000000000000 < vc
  · have hb' : (2100000000000000 : Int) < (vc : Int) := by omega
    have h5 : Hid (r = 5) := by show _ = _; rw [RR.out]; exact addR_great (by rw [← VC.out]; exact hbig)
    go_wp2_with fail
    go_ret
    exact ⟨by rw [h5.out]; rfl, _, L, by rw [addL_not (c := 4) (by rw [← RR.out]; exact h5.out)], HS.out, RA1.out, Kps.new B1.out, .inl (by rw [List.length_map, ← N.out])⟩
  have hb' : ¬ (2100000000000000 : Int) < (vc : Int) := by omega
  have VL : Hid (c.val ≤ 2100000000000000) := by show _ ≤ _; rw [← VC.out]; omega
  clear hbig
  go_wp2_with ((with_reducible show wpList _ _ _ _ _ _); (refine wpList_load_row rfl 50 (.tmp 4) rfl g4 rfl 50 cp.toArray (0, 0) _ F4.out Tryz.underlying50 rfl (by rw [PSZ.out]; kernel_rfl) ?_; go_frame))
  refine (HPL.out w1 RA1.out).mono ?_
  rintro e w2 ⟨k, rfl, rk, b2⟩
  have RK := Lib.hid rk
  have RA := Lib.hid (RA1.out.below b2)
  have B2 := Lib.hid (B1.out.trans (b2.mono B1.out.size))
  have F4 := Lib.hid (row_below F4.out b2)
  have F5 := Lib.hid (row_below F5.out b2)
  clear rk b2 RA1 cv hb'
  obtain ⟨q, hq⟩ : ∃ q, q = (getC L p).isSome := ⟨_, rfl⟩
  rw [← hq]
  cases q with
  | true =>
    have h6 : Hid (r = 6) := by show _ = _; rw [RR.out]; exact addR_there VL.out hq.symm
    clear hq
    go_wp2_with fail
    go_ret
    exact ⟨by rw [h6.out]; rfl, _, L, by rw [addL_not (c := 5) (by rw [← RR.out]; exact h6.out)], HS.out, RA.out, Kps.new B2.out, .inl (by rw [List.length_map, ← N.out])⟩
  | false =>
    have GN : Hid (getC L p = none) := getC_opt hq.symm
    have AR : Hid (addR L p c = 0) := addR_fits VL.out GN.out
    obtain rfl : r = 0 := by rw [RR.out]; exact AR.out
    have KN : Hid (k ≤ n) := by show _ ≤ _; rw [N.out]; exact RK.out.1
    have KC : Hid (k ≤ cap) := Nat.le_trans KN.out RA.out.at.len.2
    obtain ⟨sl, hsl⟩ : ∃ sl, sl = sliced sp 0 k cap 68 := ⟨_, rfl⟩
    have S1 := Lib.hid hsl
    have RT : Hid (RwAt 68 w2 sl ((L.take k).map spL)) := by
      have h := RA.out.at.cut 0 k (Nat.zero_le _) KN.out
      rw [List.drop_zero, ← List.map_take, ← hsl] at h
      exact h
    have SP : Hid (∀ W, Below w2.heap.size w2 W → Calls Tryz.prog 66 #[sl] W fun e w' => ∃ v', e = .returned v' ∧ RwOwn 68 84 W.heap.size w' v' ((L.take k).map spL) ∧ Below W.heap.size W w') := fun W hW => rspents_any _ _ W (RT.out.below hW) (fun x hx => OK.out x (List.mem_of_mem_take hx)) (by rw [List.length_take]; have := NL.out; omega)
    have HTL : Hid (((L.take k).map spL).length ≤ 1048576) := by show _ ≤ _; rw [List.length_map, List.length_take]; have := NL.out; omega
    have BS : Hid (base ≤ w2.heap.size) := Nat.le_trans BS0.out B2.out.size
    have NB : Hid (n ≤ 1048576) := by show _ ≤ _; rw [N.out]; exact NL.out
    have p0 : 0 ≤ (k : Int) := by omega
    have q0 : (k : Int) ≤ (n : Int) := by have := KN.out; omega
    clear hq hsl
    go_upto_region 6 with fail
    refine wp_region_held_drew (S := (fun w' => Below w2.heap.size w2 w')) (by kernel_rfl) (Below.drew (Below.refl _ _)) (fun hHeld => ?_)
    generalize hwd : w2.drew = wd at  hHeld ⊢
    clear hwd
    refine held_take (i := 0) (v := (.pointer (some ⟨a, 0, none⟩))) rfl (by kernel_rfl) (by kernel_rfl) (by kernel_rfl) (fun _ _ _ h => h) (Or.inl ⟨by rfl, fun w' _ => by kernel_rfl⟩) hHeld ?_
    go_frame
    refine held_take (i := 1) (v := (.pointer (some ⟨a, 0, none⟩))) rfl (by kernel_rfl) (by kernel_rfl) (by kernel_rfl) (fun _ _ _ h => h) (Or.inl ⟨by rfl, fun w' _ => by kernel_rfl⟩) hHeld ?_
    go_frame
    refine held_take (i := 2) (v := (.pointer (some ⟨a, 0, none⟩))) rfl (by kernel_rfl) (by kernel_rfl) (by kernel_rfl) (fun _ _ _ h => h) (Or.inl ⟨by rfl, fun w' _ => by kernel_rfl⟩) hHeld ?_
    go_frame
    refine held_take (i := 3) (v := (.slice sp n cap)) rfl (by kernel_rfl) (by kernel_rfl) (by kernel_rfl) (fun _ _ _ h => h) (yieldsIf_load_one (by rfl) 22 (.tmp 22) rfl a (0) rfl _ _ (fun w' hw' => (RA.out.below hw').cell) Tryz.underlying22 rfl) hHeld ?_
    go_frame
    refine held_take (i := 4) (v := (.int .i64 (k : Int))) rfl (by kernel_rfl) (by kernel_rfl) (by kernel_rfl) (fun _ _ _ h => h) (Or.inl ⟨by rfl, fun w' _ => by kernel_rfl⟩) hHeld ?_
    go_frame
    refine held_take (i := 5) (v := sl) rfl (by kernel_rfl) (by kernel_rfl) (by kernel_rfl) (fun _ _ _ h => h) (yields_cutS_h (by rfl) 22 _ _ rfl 84 68 Tryz.underlying22 (by kernel_rfl) sp n cap k sl rfl rfl KC.out S1.out) hHeld ?_
    go_frame
    refine held_take (i := 7) (v := (.agg cp.toArray)) rfl (by kernel_rfl) (by kernel_rfl) (by kernel_rfl) (fun _ _ _ h => h) (yieldsIf_load_row (by rfl) 50 (.tmp 4) rfl g4 rfl 50 cp.toArray (0, 0) _ (fun w' hw' => row_below F4.out hw') Tryz.underlying50 rfl (by rw [PSZ.out]; kernel_rfl)) hHeld ?_
    go_frame
    refine held_take (i := 8) (v := (.agg cm.toArray)) rfl (by kernel_rfl) (by kernel_rfl) (by kernel_rfl) (fun _ _ _ h => h) (yieldsIf_load_row (by rfl) 46 (.tmp 5) rfl (g4 + 1) rfl 46 cm.toArray (0, 0) _ (fun w' hw' => row_below F5.out hw') Tryz.underlying46 rfl (by rw [CSZ.out]; kernel_rfl)) hHeld ?_
    go_frame
    refine held_take (i := 9) (v := (.agg sx.toArray)) rfl (by kernel_rfl) (by kernel_rfl) (by kernel_rfl) (fun _ _ _ h => h) (yieldsIf_build (by rfl) 84 _ rfl [(0, .agg cp.toArray), (1, .agg cm.toArray)] (by kernel_rfl) _ BT.out) hHeld ?_
    go_frame
    refine wpAnyH_ready (rs := [6, 10]) (by kernel_rfl) (by simp) (held_cons rfl (fun K hK => ?_) (held_cons rfl (fun K hK => ?_) AllReadyH.nil))
    · skip
      go_simp
      refine (SP.out _ hHeld).mono ?_
      rintro e v1 ⟨vs, rfl, os, bb⟩
      have OS : Hid (RwOwn 68 84 w2.heap.size v1 vs ((L.take k).map spL)) := os.lower hHeld.size
      clear os
      have hv1 := hHeld.trans (bb.mono hHeld.size)
      clear bb hHeld
      go_wp2_with fail
      refine hK.out _ _ hv1 (fun hHeld => ?_)
      clear hK K hv1
      refine wpAnyH_ready (rs := [10]) (by kernel_rfl) (by simp) (held_cons rfl (fun K hK => ?_) AllReadyH.nil)
      rw [if_pos (by rfl)]
      refine wp_slice_one 22 84 (.tmp 29) rfl (sx) rfl Tryz.underlying22 i0 _ hi hz0 (by rw [hz1, LX.out]) (by rw [LX.out]; omega) (by rw [LX.out]; omega) ?_
      have nf := heap_alloc_new v1 (.cells (sx).toArray 84 (0, 0))
      have bb := (Below.refl v1.heap.size v1).alloc (Nat.le_refl _) (.cells (sx).toArray 84 (0, 0))
      obtain ⟨gv2, hgv2⟩ : ∃ g, g = v1.heap.size := ⟨_, rfl⟩
      generalize hqv2 : World.alloc _ _ = v2
      have ev2 : v1.alloc (.cells (sx).toArray 84 (0, 0)) = v2 := hqv2
      rw [ev2] at nf bb
      rw [← hgv2] at nf ⊢
      have NF := Lib.hid nf
      have OS := Lib.hid (OS.out.keep bb)
      have hv2 := hHeld.trans (bb.mono hHeld.size)
      clear nf bb hqv2 ev2 hgv2 hHeld
      go_frame
      refine hK.out _ _ hv2 (fun hHeld => ?_)
      clear hK K hv2
      refine wpAnyH_ready (rs := [11]) (by kernel_rfl) (by simp) (held_cons rfl (fun K hK => ?_) AllReadyH.nil)
      rw [if_pos (by rfl)]
      refine wp_append_rw v2 (.tmp 26) (.tmp 30) 22 rfl w2.heap.size 84 i0 (.agg (spL ⟨⟨List.replicate 32 0, 0⟩, mnZ⟩).toArray) 68 96 Tryz.underlying22 hi hz0 hz1 hz2 (by kernel_rfl) (by decide) vs _ rfl OS.out (.slice (some ⟨gv2, 0, none⟩) 1 1) [sx] rfl (RwAt.one NF.out LX.out) (fun m hm => by rw [List.mem_singleton.1 hm]; exact LO.out) (by have := HTL.out; rw [List.length_singleton]; omega) (by have := HTL.out; rw [List.length_singleton]; unfold maxLen; omega) hHeld.size ?_
      intro xv3 v3 q1 q2
      have OR := Lib.hid q1
      have hv3 := own_grown hHeld (Nat.le_refl _) hHeld.size OS.out.1 q2
      clear q1 q2 hHeld
      go_frame
      refine hK.out _ _ hv3 (fun hHeld => ?_)
      clear hK K hv3
      refine held_take (i := 12) (v := xv3) rfl (by kernel_rfl) (by kernel_rfl) (by kernel_rfl) (fun _ _ _ h => h) (Or.inl ⟨by rfl, fun w' _ => by kernel_rfl⟩) hHeld ?_
      go_frame
      refine wpAnyH_done (by kernel_rfl) ?_ _
      have B6 := Lib.hid hHeld
      have RA6 := Lib.hid (RA.out.below hHeld)
      have BS6 : Hid (base ≤ v3.heap.size) := Nat.le_trans BS.out B6.out.size
      clear hHeld
      have rc := RA6.out.cell
      have RD : Hid (RwAt 68 v3 (sliced sp k n cap 68) ((L.drop k).map spL)) := by
        have h := RA6.out.at.cut k n KN.out (Nat.le_refl _)
        rw [List.take_of_length_le (by rw [List.length_map, ← N.out]; exact Nat.le_refl _), ← List.map_drop] at h
        exact h
      have LN : Hid (((L.take k).map spL ++ [sx]).length + ((L.drop k).map spL).length ≤ 1048577) := by
        show _ ≤ _
        have := N.out
        have := KN.out
        have := NL.out
        rw [List.length_append, List.length_map, List.length_take, List.length_singleton, List.length_map, List.length_drop]
        omega
      have BX6 := Lib.hid (show v3.heap[a]? = some (.cells ([] ++ [Value.slice sp n cap] ++ []).toArray 97 (0, 0)) from RA6.out.box)
      go_upto_region 8 with (first | (at_builtin; refine wpList_append_rw _ rfl (.tmp 33) (.tmp 39) 22 rfl w2.heap.size 84 i0 (.agg (spL ⟨⟨List.replicate 32 0, 0⟩, mnZ⟩).toArray) 68 96 Tryz.underlying22 hi hz0 hz1 hz2 (by kernel_rfl) (by decide) xv3 _ rfl OR.out _ _ (by first | rfl | exact S7.out) RD.out (sps_one _) (by have := LN.out; omega) (by have := LN.out; unfold maxLen; omega) B6.out.size ?_; intro v8 w8 q1 q2; obtain ⟨sp8, n8, cap8, rfl⟩ : ∃ sp n cap, v8 = .slice sp n cap := (let ⟨s, c, e⟩ := (RwOwn.at q1 (by omega)).shape; ⟨s, _, c, e⟩); have O8 := Lib.hid q1; have G8 := Lib.hid q2; have B8 := Lib.hid (own_grown B6.out (Nat.le_refl _) B6.out.size OR.out.1 q2); have BX8 := Lib.hid (row_below (RA.out.below B8.out).box (Below.refl _ _)); clear q1 q2; go_frame) | ((with_reducible show wpList _ _ _ _ _ _); first | (refine wpList_cutS_l rfl 22 (.tmp 37) (.tmp 38) rfl 84 68 Tryz.underlying22 (by kernel_rfl) sp n cap k rfl rfl KN.out ?_; intro s7 q1; have S7 := Lib.hid q1.out; clear q1; go_frame) | (refine wpList_store_part rfl 22 (.tmp 42) (.tmp 40) rfl a 0 [] [Value.slice sp n cap] [] [Value.slice sp8 n8 cap8] 97 (.slice sp8 n8 cap8) rfl rfl rfl rfl rfl BX8.out (by kernel_rfl) (fun u hu => by rw [List.mem_singleton.1 hu]; rfl) ?_; intro w9 q1 q2; have Q1 := Lib.hid q1; have Q2 := Lib.hid q2; clear q1 q2; go_frame)))
      go_wp2_with fail
      go_ret
      refine ⟨rfl, _, L.take k ++ [⟨p, c⟩] ++ L.drop k, ?_, ?_, ⟨Q1.out, ?_⟩, ?_⟩
      · rw [addL_zero' AR.out]
        exact ins_perm _ _
      · exact ins_sorted (x := ⟨p, c⟩) HS.out OK.out ⟨HP.out, HC.out⟩ RK.out GN.out
      · have e : (L.take k ++ [(⟨p, c⟩ : TSp)] ++ L.drop k).map spL = (L.take k).map spL ++ [sx] ++ (L.drop k).map spL := by rw [List.map_append, List.map_append, List.map_singleton, SX.out]
        rw [e]
        exact (O8.out.lower BS.out).kept Q2.out (.inr fun e => by have h1 := (O8.out.1.lt _ e).1; have := AL.out; have := B2.out.size; omega)
      · exact ⟨(Kps.new (B2.out.trans (B8.out.mono B2.out.size))).trans (Kps.grown Q2.out fun k _ hk e => hk (Option.some.inj e)), .inr fun q e => by have h1 := (O8.out.1.lt _ e).1; have := B2.out.size; omega⟩
    · skip
      rw [if_pos (by rfl)]
      refine wp_slice_one 22 84 (.tmp 29) rfl (sx) rfl Tryz.underlying22 i0 _ hi hz0 (by rw [hz1, LX.out]) (by rw [LX.out]; omega) (by rw [LX.out]; omega) ?_
      have nf := heap_alloc_new wd (.cells (sx).toArray 84 (0, 0))
      have bb := (Below.refl wd.heap.size wd).alloc (Nat.le_refl _) (.cells (sx).toArray 84 (0, 0))
      obtain ⟨gv4, hgv4⟩ : ∃ g, g = wd.heap.size := ⟨_, rfl⟩
      generalize hqv4 : World.alloc _ _ = v4
      have ev4 : wd.alloc (.cells (sx).toArray 84 (0, 0)) = v4 := hqv4
      rw [ev4] at nf bb
      rw [← hgv4] at nf ⊢
      have NF := Lib.hid nf
      have hv4 := hHeld.trans (bb.mono hHeld.size)
      clear nf bb hqv4 ev4 hgv4 hHeld
      go_frame
      refine hK.out _ _ hv4 (fun hHeld => ?_)
      clear hK K hv4
      refine wpAnyH_ready (rs := [6]) (by kernel_rfl) (by simp) (held_cons rfl (fun K hK => ?_) AllReadyH.nil)
      go_simp
      refine (SP.out _ hHeld).mono ?_
      rintro e v5 ⟨vs, rfl, os, bb⟩
      have OS : Hid (RwOwn 68 84 w2.heap.size v5 vs ((L.take k).map spL)) := os.lower hHeld.size
      clear os
      have NF := Lib.hid (row_below NF.out bb)
      have hv5 := hHeld.trans (bb.mono hHeld.size)
      clear bb hHeld
      go_wp2_with fail
      refine hK.out _ _ hv5 (fun hHeld => ?_)
      clear hK K hv5
      refine wpAnyH_ready (rs := [11]) (by kernel_rfl) (by simp) (held_cons rfl (fun K hK => ?_) AllReadyH.nil)
      rw [if_pos (by rfl)]
      refine wp_append_rw v5 (.tmp 26) (.tmp 30) 22 rfl w2.heap.size 84 i0 (.agg (spL ⟨⟨List.replicate 32 0, 0⟩, mnZ⟩).toArray) 68 96 Tryz.underlying22 hi hz0 hz1 hz2 (by kernel_rfl) (by decide) vs _ rfl OS.out (.slice (some ⟨gv4, 0, none⟩) 1 1) [sx] rfl (RwAt.one NF.out LX.out) (fun m hm => by rw [List.mem_singleton.1 hm]; exact LO.out) (by have := HTL.out; rw [List.length_singleton]; omega) (by have := HTL.out; rw [List.length_singleton]; unfold maxLen; omega) hHeld.size ?_
      intro xv6 v6 q1 q2
      have OR := Lib.hid q1
      have hv6 := own_grown hHeld (Nat.le_refl _) hHeld.size OS.out.1 q2
      clear q1 q2 hHeld
      go_frame
      refine hK.out _ _ hv6 (fun hHeld => ?_)
      clear hK K hv6
      refine held_take (i := 12) (v := xv6) rfl (by kernel_rfl) (by kernel_rfl) (by kernel_rfl) (fun _ _ _ h => h) (Or.inl ⟨by rfl, fun w' _ => by kernel_rfl⟩) hHeld ?_
      go_frame
      refine wpAnyH_done (by kernel_rfl) ?_ _
      have B6 := Lib.hid hHeld
      have RA6 := Lib.hid (RA.out.below hHeld)
      have BS6 : Hid (base ≤ v6.heap.size) := Nat.le_trans BS.out B6.out.size
      clear hHeld
      have rc := RA6.out.cell
      have RD : Hid (RwAt 68 v6 (sliced sp k n cap 68) ((L.drop k).map spL)) := by
        have h := RA6.out.at.cut k n KN.out (Nat.le_refl _)
        rw [List.take_of_length_le (by rw [List.length_map, ← N.out]; exact Nat.le_refl _), ← List.map_drop] at h
        exact h
      have LN : Hid (((L.take k).map spL ++ [sx]).length + ((L.drop k).map spL).length ≤ 1048577) := by
        show _ ≤ _
        have := N.out
        have := KN.out
        have := NL.out
        rw [List.length_append, List.length_map, List.length_take, List.length_singleton, List.length_map, List.length_drop]
        omega
      have BX6 := Lib.hid (show v6.heap[a]? = some (.cells ([] ++ [Value.slice sp n cap] ++ []).toArray 97 (0, 0)) from RA6.out.box)
      go_upto_region 8 with (first | (at_builtin; refine wpList_append_rw _ rfl (.tmp 33) (.tmp 39) 22 rfl w2.heap.size 84 i0 (.agg (spL ⟨⟨List.replicate 32 0, 0⟩, mnZ⟩).toArray) 68 96 Tryz.underlying22 hi hz0 hz1 hz2 (by kernel_rfl) (by decide) xv6 _ rfl OR.out _ _ (by first | rfl | exact S7.out) RD.out (sps_one _) (by have := LN.out; omega) (by have := LN.out; unfold maxLen; omega) B6.out.size ?_; intro v8 w8 q1 q2; obtain ⟨sp8, n8, cap8, rfl⟩ : ∃ sp n cap, v8 = .slice sp n cap := (let ⟨s, c, e⟩ := (RwOwn.at q1 (by omega)).shape; ⟨s, _, c, e⟩); have O8 := Lib.hid q1; have G8 := Lib.hid q2; have B8 := Lib.hid (own_grown B6.out (Nat.le_refl _) B6.out.size OR.out.1 q2); have BX8 := Lib.hid (row_below (RA.out.below B8.out).box (Below.refl _ _)); clear q1 q2; go_frame) | ((with_reducible show wpList _ _ _ _ _ _); first | (refine wpList_cutS_l rfl 22 (.tmp 37) (.tmp 38) rfl 84 68 Tryz.underlying22 (by kernel_rfl) sp n cap k rfl rfl KN.out ?_; intro s7 q1; have S7 := Lib.hid q1.out; clear q1; go_frame) | (refine wpList_store_part rfl 22 (.tmp 42) (.tmp 40) rfl a 0 [] [Value.slice sp n cap] [] [Value.slice sp8 n8 cap8] 97 (.slice sp8 n8 cap8) rfl rfl rfl rfl rfl BX8.out (by kernel_rfl) (fun u hu => by rw [List.mem_singleton.1 hu]; rfl) ?_; intro w9 q1 q2; have Q1 := Lib.hid q1; have Q2 := Lib.hid q2; clear q1 q2; go_frame)))
      go_wp2_with fail
      go_ret
      refine ⟨rfl, _, L.take k ++ [⟨p, c⟩] ++ L.drop k, ?_, ?_, ⟨Q1.out, ?_⟩, ?_⟩
      · rw [addL_zero' AR.out]
        exact ins_perm _ _
      · exact ins_sorted (x := ⟨p, c⟩) HS.out OK.out ⟨HP.out, HC.out⟩ RK.out GN.out
      · have e : (L.take k ++ [(⟨p, c⟩ : TSp)] ++ L.drop k).map spL = (L.take k).map spL ++ [sx] ++ (L.drop k).map spL := by rw [List.map_append, List.map_append, List.map_singleton, SX.out]
        rw [e]
        exact (O8.out.lower BS.out).kept Q2.out (.inr fun e => by have h1 := (O8.out.1.lt _ e).1; have := AL.out; have := B2.out.size; omega)
      · exact ⟨(Kps.new (B2.out.trans (B8.out.mono B2.out.size))).trans (Kps.grown Q2.out fun k _ hk e => hk (Option.some.inj e)), .inr fun q e => by have h1 := (O8.out.1.lt _ e).1; have := B2.out.size; omega⟩
theorem radd_any (w : World) (base a : Nat) (v : Value) (L : List TSp) (p : TPt) (c : TMn) (h : RefAt w base a v L) (hs : SortedC L) (ho : ∀ x ∈ L, SpOk x) (hp : PtOk p) (hc : MnOk c) (hn : L.length ≤ 1048576) (hbase : base ≤ w.heap.size) :
    Calls Tryz.prog 32 #[.pointer (some ⟨a, 0, none⟩), .agg (ptC p).toArray, .agg (mnL c).toArray] w fun e w' =>
      e = .returned (.int .i64 (numE (addR L p c))) ∧ ∃ v' L', L'.Perm (addL L p c) ∧ SortedC L' ∧ RefAt w' base a v' L' ∧ Kps (fun j => j ≠ a) w w' := by
  refine (radd_n w base a v L p c h hs ho hp hc hn hbase).mono ?_
  rintro e w' ⟨h1, v', L', h2, h3, h4, h5, _⟩
  exact ⟨h1, v', L', h2, h3, h4, h5⟩
end Go.Proofs.YtckkcpplanfmhaaGreatDoor.Sha

/-
  The statements' own set: a coin is got, or spent; the sum of all values. Getting and summing turn nothing; spending turns its box alone. Conditions: the set lies where the pointer says, in order, at most 2^20 coins; a place as the model has it.
-/
namespace Go.Proofs.YtckkcpplanfmhaaGreatDoor.Sha
open Go Go.RowKit
set_option maxHeartbeats 4000000 in
set_option maxRecDepth 100000 in
theorem rget_any (w : World) (base a : Nat) (v : Value) (L : List TSp) (p : TPt) (h : RefAt w base a v L) (hs : SortedC L) (ho : ∀ x ∈ L, SpOk x) (hp : PtOk p) (hn : L.length ≤ 1048576) :
    Calls Tryz.prog 12 #[.pointer (some ⟨a, 0, none⟩), .agg (ptC p).toArray] w fun e w' => e = .returned (.tuple #[.agg (mnL ((getC L p).getD mnZ)).toArray, .bool (getC L p).isSome]) ∧ Below w.heap.size w w' := by
  have HS := Lib.hid hs
  have OK := Lib.hid ho
  have HP := Lib.hid hp
  have NL := Lib.hid hn
  have PSZ : Hid ((ptC p).toArray.size = 33) := ptC_size hp
  have AL : Hid (a < w.heap.size) := (Array.getElem?_eq_some_iff.1 h.box).1
  have HPL : Hid (∀ W, RefAt W base a v L → Calls Tryz.prog 38 #[.pointer (some ⟨a, 0, none⟩), .agg (ptC p).toArray] W fun e w' => ∃ k : Nat, e = .returned (.tuple #[.int .i64 (k : Int), .bool (getC L p).isSome]) ∧ Rank L p k ∧ Below W.heap.size W w') := fun W hW => rplace_any W base a v L p hW hs ho hp hn
  obtain ⟨cp, hcp⟩ : ∃ cp, cp = ptC p := ⟨_, rfl⟩
  rw [← hcp] at PSZ HPL ⊢
  obtain ⟨sp, cap, rfl⟩ := h.at.shape
  rw [List.length_map] at h HPL
  obtain ⟨n, hnl⟩ : ∃ n, n = L.length := ⟨_, rfl⟩
  rw [← hnl] at h HPL
  have N := Lib.hid hnl
  have RA0 := Lib.hid h
  clear hs ho hp hn h hcp hnl
  go_enter Tryz.func12, Tryz.ntmps12
  go_upto_region 1 with fail
  have f3 := row_below (heap_alloc_new w (.cells cp.toArray 50 (0, 0))) ((Below.refl _ _).alloc (Nat.le_refl _) (.cells (mnL mnZ).toArray 46 (0, 0)))
  have f4 := heap_alloc_new (w.alloc (.cells cp.toArray 50 (0, 0))) (.cells (mnL mnZ).toArray 46 (0, 0))
  have b0 := ((Below.refl w.heap.size w).alloc (Nat.le_refl _) (.cells cp.toArray 50 (0, 0))).alloc (by simp) (.cells (mnL mnZ).toArray 46 (0, 0))
  rw [World.size_alloc] at f4
  generalize hw1 : World.alloc _ _ = w1
  have e1 : (w.alloc (.cells cp.toArray 50 (0, 0))).alloc (.cells (mnL mnZ).toArray 46 (0, 0)) = w1 := hw1
  rw [e1] at f3 f4 b0
  obtain ⟨g3, hg3⟩ : ∃ g3, g3 = w.heap.size := ⟨_, rfl⟩
  have G3 : Hid (w.heap.size ≤ g3) := by show _ ≤ _; rw [hg3]; exact Nat.le_refl _
  rw [← hg3] at f3 f4 ⊢
  have F3 := Lib.hid f3
  have F4 := Lib.hid f4
  have B1 := Lib.hid b0
  have RA1 := Lib.hid (RA0.out.below b0)
  clear f3 f4 b0 hw1 e1 hg3 RA0
  go_wp2_with ((with_reducible show wpList _ _ _ _ _ _); (refine wpList_load_row rfl 50 (.tmp 3) rfl g3 rfl 50 cp.toArray (0, 0) _ F3.out Tryz.underlying50 rfl (by rw [PSZ.out]; kernel_rfl) ?_; go_frame))
  refine (HPL.out w1 RA1.out).mono ?_
  rintro e w2 ⟨k, rfl, rk, b2⟩
  have RK := Lib.hid rk
  have RA := Lib.hid (RA1.out.below b2)
  have B2 := Lib.hid (B1.out.trans (b2.mono B1.out.size))
  have F4 := Lib.hid (row_below F4.out b2)
  clear rk b2 RA1
  obtain ⟨q, hq⟩ : ∃ q, q = (getC L p).isSome := ⟨_, rfl⟩
  rw [← hq]
  cases q with
  | false =>
    have GN : Hid (getC L p = none) := getC_opt hq.symm
    clear hq
    go_wp2_with ((with_reducible show wpList _ _ _ _ _ _); first | (refine wpList_buildTo rfl 46 _ rfl _ rfl (mnL mnZ).toArray (by kernel_rfl) ?_; go_frame) | (refine wpList_store_row rfl 46 (.tmp 4) (.tmp 16) rfl (g3 + 1) (mnL mnZ).toArray rfl rfl 46 _ F4.out (by kernel_rfl) rfl (mnL_all _) ?_; go_frame))
    refine bodyPost_ret (results_row_tmp rfl _ _ (g3 + 1) 46 (mnL mnZ).toArray (0, 0) _ rfl (setRow_heap _ _ _ _ _ _ F4.out) Tryz.underlying46 rfl (by kernel_rfl)) rfl ?_
    exact ⟨by rw [GN.out]; rfl, below_setRow B2.out (by have := G3.out; omega) _⟩
  | true =>
    obtain ⟨x, hx, hxp, hgx⟩ := rank_get HS.out RK.out hq.symm
    obtain ⟨b, o, rfl, hg⟩ := RA.out.at.get (by have := (List.getElem?_eq_some_iff.1 hx).1; have := N.out; omega)
    have ox := OK.out x (List.mem_of_getElem? hx)
    have GX := Lib.hid hgx
    have XP := Lib.hid hxp
    have XI := Lib.hid hx
    have RX : Hid (w2.rangeAt b (o + k * 68 + 33) (mnL x.coin)) := sp_mn ox (hg k (spL x) (by rw [List.getElem?_map, hx]; rfl))
    have LM : Hid ((mnL x.coin).length = 35) := mnL_length ox.2
    have CZ : Hid ((mnL x.coin).toArray.size = 35) := mnL_size ox.2
    have KL : Hid (k < n) := by show _ < _; rw [N.out]; exact (List.getElem?_eq_some_iff.1 hx).1
    have MO : Hid ((mnL x.coin).toArray.all (·.oneCell') = true) := mnL_all _
    obtain ⟨cm, hcm⟩ : ∃ cm, cm = mnL x.coin := ⟨_, rfl⟩
    rw [← hcm] at RX LM CZ MO
    have CM := Lib.hid hcm
    have p0 : 0 ≤ (k : Int) := by omega
    have q0 : (k : Int) < (n : Int) := by have := KL.out; omega
    have rc := RA.out.cell
    clear hx hxp hgx ox hg hcm hq
    go_wp2_with ((with_reducible show wpList _ _ _ _ _ _); first | (refine wpList_load_mid rfl 46 (.tmp 23) rfl b (o + k * 68 + 33) rfl cm _ RX.out Tryz.underlying46 rfl (by rw [LM.out]; kernel_rfl) ?_; go_frame) | (refine wpList_store_row rfl 46 (.tmp 4) (.tmp 24) rfl (g3 + 1) cm.toArray rfl rfl 46 _ F4.out (by rw [CZ.out]; kernel_rfl) (by rw [CZ.out]; rfl) MO.out ?_; go_frame))
    refine bodyPost_ret (results_row_tmp rfl _ _ (g3 + 1) 46 cm.toArray (0, 0) _ rfl (setRow_heap _ _ _ _ _ _ F4.out) Tryz.underlying46 rfl (by rw [CZ.out]; kernel_rfl)) rfl ?_
    exact ⟨by rw [GX.out, CM.out]; rfl, below_setRow B2.out (by have := G3.out; omega) _⟩
end Go.Proofs.YtckkcpplanfmhaaGreatDoor.Sha

/-
  Package undo puts transactions on a set, where nothing is amiss: what they took, the coins then. The set and new memory turn, no more. Conditions: the set and the transactions lie where they should; the errors, the table of the rounds' words are there.
-/
namespace Go.Proofs.YtckkcpplanfmhaaGreatDoor.Sha
open Go Go.RowKit
/-- Transactions that stand while the blocks of F stand. -/
def TxsF (F : Nat → Prop) (w : World) (v : Value) (txs : List TTx) : Prop :=
  ∃ sp cap, v = .slice sp txs.length cap ∧ txs.length ≤ cap ∧ (0 < txs.length → ∃ b o, sp = some ⟨b, o, none⟩ ∧ ∀ i t, txs[i]? = some t → ∃ iv ov, ∀ W, Kps F w W → W.rangeAt b (o + i * 4) (txL t iv ov) ∧ TxAt W (.agg (txL t iv ov).toArray) t)
theorem TxsF.of {F : Nat → Prop} {w1 w : World} {v : Value} {txs : List TTx} (h : TxsAt w1 v txs) (hb : Below w1.heap.size w1 w) (hF : ∀ k, k < w1.heap.size → F k) : TxsF F w v txs := by
  have hd : ∀ W, Kps F w W → Below w1.heap.size w1 W := fun W hk => ⟨hk.os.trans hb.os, hk.tape.trans hb.tape, hk.output.trans hb.output, Nat.le_trans hb.size hk.size, fun k hlt => (hk.block k (Nat.lt_of_lt_of_le hlt hb.size) (hF k hlt)).trans (hb.block k hlt)⟩
  obtain ⟨sp, cap, rfl⟩ := h.shape
  refine ⟨sp, cap, rfl, h.len.2, fun h0 => ?_⟩
  obtain ⟨b, o, hs, _, hg⟩ := h.get h0
  refine ⟨b, o, hs, fun i t hi => ?_⟩
  obtain ⟨iv, ov, h1, h2⟩ := hg i t hi
  exact ⟨iv, ov, fun W hk => ⟨range_below h1 (hd W hk), h2.below (hd W hk)⟩⟩
end Go.Proofs.YtckkcpplanfmhaaGreatDoor.Sha

/-
  Putting transactions on asks nothing of the order in which the coins stand. Pure.
-/
namespace Go.Proofs.YtckkcpplanfmhaaGreatDoor.Sha
open Go Go.RowKit
/-- The same answer, the coins in whatever order. -/
def PL (a b : Except Nat (List TSp)) : Prop := match a, b with | .ok p, .ok q => p.Perm q | .error c, .error d => c = d | _, _ => False
def PR (a b : Except Nat (List TSp × List TSp)) : Prop := match a, b with | .ok p, .ok q => p.1 = q.1 ∧ p.2.Perm q.2 | .error c, .error d => c = d | _, _ => False
end Go.Proofs.YtckkcpplanfmhaaGreatDoor.Sha

/-
  The statements' own set and a row of coins of one's own, one beside the other: how both stand over each kind of change. No conditions.
-/
namespace Go.Proofs.YtckkcpplanfmhaaGreatDoor.Sha
open Go Go.RowKit
/-- The set's box is a, its row vb; beside it the row tv; all of it is newer than w0. -/
structure RpG (w0 w : World) (a : Nat) (vb tv : Value) (L tk : List TSp) : Prop where
  set : RefAt w w0.heap.size a vb L
  new : w0.heap.size ≤ a
  row : RwOwn 68 84 w0.heap.size w tv (tk.map spL)
  ne : ∀ b, vb.ownBlock = some b → tv.ownBlock ≠ some b
  srt : SortedC L
  ok : ∀ x ∈ L, SpOk x
  okt : ∀ x ∈ tk, SpOk x
  bel : Below w0.heap.size w0 w
variable {w0 w w' : World} {a : Nat} {vb tv : Value} {L tk : List TSp}
theorem RpG.below (h : RpG w0 w a vb tv L tk) (hb : Below w.heap.size w w') : RpG w0 w' a vb tv L tk :=
  ⟨h.set.below hb, h.new, h.row.keep hb, h.ne, h.srt, h.ok, h.okt, h.bel.trans (hb.mono h.bel.size)⟩
theorem RpG.rowne (h : RpG w0 w a vb tv L tk) : tv.ownBlock ≠ some a := own_ne' h.row.1 h.set.box (by decide)
/-- A box of another type stays while the set turns. -/
theorem RpG.box {g : Nat} {cs : Array Value} {T : TypeId} {fr : Nat × Nat} (h : RpG w0 w a vb tv L tk) (hk : Kps (fun j => j ≠ a) w w') (hg : w.heap[g]? = some (.cells cs T fr)) (hT : T ≠ 97) : w'.heap[g]? = some (.cells cs T fr) := by
  refine row_kps hg hk (fun e => ?_)
  have h1 := h.set.box
  rw [← e, hg] at h1
  exact hT (by cases h1; rfl)
/-- The row beside it grew. -/
theorem RpG.push {tv' : Value} {x : TSp} (h : RpG w0 w a vb tv L tk) (ho : w'.ownsRow w0.heap.size 84 68 tv' ((tk.map spL).length + 1) ((tk.map spL).flatten ++ spL x)) (hg : w.grownBy w' tv.ownBlock) (hv : tv'.ownBlock = tv.ownBlock ∨ tv'.ownBlock = some w.heap.size) (hx : SpOk x) : RpG w0 w' a vb tv' L (tk ++ [x]) := by
  have al : a < w.heap.size := (Array.getElem?_eq_some_iff.1 h.set.box).1
  refine ⟨⟨(hg.block a al (fun e => h.rowne e.symm)).trans h.set.box, h.set.row.kept hg ?_⟩, h.new, ?_, fun b hb => ?_, h.srt, h.ok, fun y hy => ?_, h.bel.grown hg h.bel.size (fun q hq => (h.row.1.lt q hq).1)⟩
  · cases hb : vb.ownBlock with
    | none => exact .inl rfl
    | some b => exact .inr (fun e => h.ne b hb e.symm)
  · rw [List.map_append, List.map_singleton]
    exact RwOwn.push h.row.2 (spL_length hx) ho
  · rcases hv with hv | hv
    · rw [hv]; exact h.ne b hb
    · rw [hv]
      intro e
      have h1 := (h.set.row.1.lt b hb).2
      have h2 := Option.some.inj e
      omega
  · rcases List.mem_append.1 hy with hy | hy
    · exact h.okt y hy
    · rw [List.mem_singleton.1 hy]; exact hx
end Go.Proofs.YtckkcpplanfmhaaGreatDoor.Sha

/-
  Which of a transaction's inputs wait, and the greatest of two lists: pure. Conditions: none.
-/
namespace Go.Proofs.YtckkcpplanfmhaaGreatDoor.Sha
open Go Go.RowKit
def grI : List Int → Int
  | [] => -1
  | x :: r => r.foldl max x
theorem grI_snoc {l : List Int} (h : l ≠ []) (y : Int) : grI (l ++ [y]) = max (grI l) y := by
  match l, h with
  | x :: r, _ => show (r ++ [y]).foldl max x = max (r.foldl max x) y; rw [List.foldl_append]; rfl
theorem grI_neg : ∀ {l : List Int}, (∀ x ∈ l, -1 ≤ x) → grI l = l.foldl max (-1)
  | [], _ => rfl
  | x :: r, h => by
    show r.foldl max x = r.foldl max (max (-1) x)
    rw [Int.max_eq_right (h x (List.mem_cons_self ..))]
def spanN (s : Nat) : Nat := s &&& 65535
theorem spanN_le (s : Nat) : spanN s ≤ 65535 := Nat.and_le_right
def hSel (e : Nat × Int × Nat) : Option Int := if lockB e.1 then none else if timeB e.1 then none else some (e.2.1 + (spanN e.1 : Int) - 1)
def pSel (e : Nat × Int × Nat) : Option Int := if lockB e.1 then none else if timeB e.1 then some ((e.2.2 : Int) + 512 * (spanN e.1 : Int) - 1) else none
def hLs (E : List (Nat × Int × Nat)) : List Int := E.filterMap hSel
def pLs (E : List (Nat × Int × Nat)) : List Int := E.filterMap pSel
theorem sel_succ {α β : Type} (f : α → Option β) {E : List α} {i : Nat} {e : α} (h : E[i]? = some e) : (E.take (i + 1)).filterMap f = (E.take i).filterMap f ++ (f e).toList := by
  rw [List.take_succ_eq_append_getElem (List.getElem?_eq_some_iff.1 h).1, (List.getElem?_eq_some_iff.1 h).2, List.filterMap_append]
  have h2 : [e].filterMap f = (f e).toList := by cases hf : f e <;> simp [hf]
  rw [h2]
theorem sel_length {α β : Type} (f : α → Option β) (E : List α) : (E.filterMap f).length ≤ E.length := List.length_filterMap_le _ _
def HtOk (h : Int) : Prop := -1 ≤ h ∧ h ≤ 1099511627776
theorem addH_ok {h : Int} {s : Nat} (hh : HtOk h) : addH h (spanN s) = h + (spanN s : Int) - 1 := by
  have := spanN_le s
  obtain ⟨h1, h2⟩ := hh
  unfold addH
  rw [IntWalk.i64_in (h + (spanN s : Int)) (by omega), IntWalk.i64_in (h + (spanN s : Int) - 1) (by omega)]
theorem need_fold : ∀ (E : List (Nat × Int × Nat)) (a b : Int), (∀ e ∈ E, HtOk e.2.1) → E.foldl needStep (a, b) = ((hLs E).foldl max a, (pLs E).foldl max b)
  | [], _, _, _ => rfl
  | e :: r, a, b, h => by
    have hr := fun x y => need_fold r x y (fun z hz => h z (List.mem_cons_of_mem _ hz))
    have he := addH_ok (s := e.1) (h e (List.mem_cons_self ..))
    have ehl : hLs (e :: r) = (hSel e).toList ++ hLs r := by
      unfold hLs
      cases hf : hSel e <;> simp [hf]
    have epl : pLs (e :: r) = (pSel e).toList ++ pLs r := by
      unfold pLs
      cases hf : pSel e <;> simp [hf]
    rw [ehl, epl, List.foldl_append, List.foldl_append]
    have hst : needStep (a, b) e = if lockB e.1 then (a, b) else if timeB e.1 then (a, max b ((e.2.2 : Int) + 512 * (spanN e.1 : Int) - 1)) else (max a (addH e.2.1 (spanN e.1)), b) := rfl
    have hhs : hSel e = if lockB e.1 then none else if timeB e.1 then none else some (e.2.1 + (spanN e.1 : Int) - 1) := rfl
    have hps : pSel e = if lockB e.1 then none else if timeB e.1 then some ((e.2.2 : Int) + 512 * (spanN e.1 : Int) - 1) else none := rfl
    rw [List.foldl_cons, hst, hhs, hps, he]
    by_cases hl : lockB e.1 = true
    · rw [if_pos hl, if_pos hl, if_pos hl, hr]
      rfl
    · rw [if_neg hl, if_neg hl, if_neg hl]
      by_cases ht : timeB e.1 = true
      · rw [if_pos ht, if_pos ht, if_pos ht, hr]
        rfl
      · rw [if_neg ht, if_neg ht, if_neg ht, hr]
        rfl
theorem need_gr {E : List (Nat × Int × Nat)} (h : ∀ e ∈ E, 0 ≤ e.2.1 ∧ e.2.1 ≤ 1099511627776) : (grI (hLs E), grI (pLs E)) = E.foldl needStep (-1, -1) := by
  rw [need_fold E (-1) (-1) (fun e he => ⟨by have := (h e he).1; omega, (h e he).2⟩)]
  have h1 : ∀ x ∈ hLs E, -1 ≤ x := fun x hx => by
    obtain ⟨e, he, hf⟩ := List.mem_filterMap.1 hx
    have := (h e he).1
    unfold hSel at hf
    split at hf
    · cases hf
    · split at hf
      · cases hf
      · obtain rfl := Option.some.inj hf
        omega
  have h2 : ∀ x ∈ pLs E, -1 ≤ x := fun x hx => by
    obtain ⟨e, he, hf⟩ := List.mem_filterMap.1 hx
    unfold pSel at hf
    split at hf
    · cases hf
    · split at hf
      · obtain rfl := Option.some.inj hf
        omega
      · cases hf
  rw [grI_neg h1, grI_neg h2]
end Go.Proofs.YtckkcpplanfmhaaGreatDoor.Sha

/-
  The library's greatest of a list of numbers, and the project's own of a list that may be empty. Nothing that was there turns. Conditions: the list lies in memory.
-/
namespace Go.Proofs.YtckkcpplanfmhaaGreatDoor.Sha
open Go Go.RowKit
def MxI (l : List Int) (n : Nat) (w : World) (vm vi : Value) (wr : World) : Prop :=
  ∃ (i : Nat) (m : Int), vm = .int .i64 m ∧ vi = .int .i64 (i : Int) ∧ 1 ≤ i ∧ i ≤ n ∧ grI (l.take i) = m ∧ Below w.heap.size w wr
set_option maxHeartbeats 2000000 in
set_option maxRecDepth 100000 in
theorem sqmax_any (l : List Int) (v : Value) (w : World) (h : RwAt 1 w v (l.map intC)) (h0 : 0 < l.length) (hn : l.length ≤ 4611686018427387904) :
    Calls Tryz.prog 159 #[v] w fun e w' => e = .returned (.int .i64 (grI l)) ∧ Below w.heap.size w w' := by
  obtain ⟨s, c, rfl⟩ := h.shape
  rw [List.length_map] at h ⊢
  obtain ⟨n, hnl⟩ : ∃ n, n = l.length := ⟨_, rfl⟩
  rw [← hnl] at h h0 hn ⊢
  have N := Lib.hid hnl
  obtain ⟨b, o, rfl, hg0⟩ := h.get h0
  have HG : Hid (∀ W, Below w.heap.size w W → ∀ i x, l[i]? = some x → W.cell? ⟨b, o + i, none⟩ = some (.int .i64 x)) := fun W hW i x hx => by
    obtain ⟨b', o', e, hg⟩ := (h.below hW).get h0
    cases e
    exact int_cell (hg i (intC x) (by rw [List.getElem?_map, hx]; rfl))
  obtain ⟨x0, hx0⟩ : ∃ x, l[0]? = some x := ⟨_, List.getElem?_eq_getElem (by omega)⟩
  have c0 := HG.out w (Below.refl _ _) 0 x0 hx0
  have G0 : Hid (grI (l.take 1) = x0) := by
    show _ = _
    match l, hx0 with
    | y :: r, hx0 => obtain rfl := Option.some.inj hx0; rfl
  obtain ⟨R, hR⟩ : ∃ R, R = grI l := ⟨_, rfl⟩
  have RE := Lib.hid hR
  rw [← hR]
  clear h hnl hg0 hx0 hR
  rw [Nat.add_zero] at c0
  have n1 : ¬ (n : Int) < 1 := by omega
  have n0 : (0 : Int) < (n : Int) := by omega
  go_enter Tryz.func159, Tryz.ntmps159
  go_wp2_with fail
  go_loopw [3, 4] (fun vm vi wr => MxI l n w vm vi wr) (fun _ vi _ => n - (intOf vi).toNat)
  case atStart => exact ⟨1, x0, rfl, rfl, Nat.le_refl _, by omega, G0.out, Below.refl _ _⟩
  case round =>
    clear c0
    obtain ⟨i, m, rfl, rfl, h1, h2, hm, hb⟩ := hrel
    have M := Lib.hid hm
    have B := Lib.hid hb
    clear hm hb
    by_cases hlt : i < n
    · obtain ⟨x, hx⟩ : ∃ x, l[i]? = some x := ⟨_, List.getElem?_eq_getElem (by rw [← N.out]; exact hlt)⟩
      have ci := HG.out _ B.out i x hx
      have MS : Hid (grI (l.take (i + 1)) = max m x) := by
        show _ = _
        rw [List.take_succ_eq_append_getElem (List.getElem?_eq_some_iff.1 hx).1, (List.getElem?_eq_some_iff.1 hx).2, grI_snoc (fun e => by have := congrArg List.length e; rw [List.length_take, List.length_nil] at this; have := N.out; omega), M.out]
      have i0 : 0 ≤ (i : Int) := by omega
      have i1 : (i : Int) < (n : Int) := by omega
      clear hx
      by_cases hc : m < x
      · have c2 : ¬ x < m := by omega
        have MV : Hid (grI (l.take (i + 1)) = x) := by show _ = _; rw [MS.out, Int.max_eq_right (by omega)]
        go_wp2_with fail
        go_roundw
        case rel => exact ⟨i + 1, x, congrArg (Value.int .i64) (by omega), by go_num, by omega, by omega, MV.out, B.out⟩
        case measure => simp [intOf] <;> omega
      · have c2 : x ≤ m := by omega
        have MV : Hid (grI (l.take (i + 1)) = m) := by show _ = _; rw [MS.out, Int.max_eq_left (by omega)]
        go_wp2_with fail
        go_roundw
        case rel => exact ⟨i + 1, m, congrArg (Value.int .i64) (by omega), by go_num, by omega, by omega, MV.out, B.out⟩
        case measure => simp [intOf] <;> omega
    · have hin : i = n := by omega
      have RV : Hid (R = m) := by
        have h := M.out
        rw [hin, List.take_of_length_le (by rw [← N.out]; exact Nat.le_refl _)] at h
        rw [RE.out]
        exact h
      have i1 : ¬ (i : Int) < (n : Int) := by omega
      clear hin hlt M
      go_wp2_with fail
      go_ret
      exact ⟨by rw [RV.out]; rfl, B.out⟩
set_option maxHeartbeats 2000000 in
set_option maxRecDepth 100000 in
theorem sqgreat_any (l : List Int) (v : Value) (w : World) (h : RwAt 1 w v (l.map intC)) (hn : l.length ≤ 4611686018427387904) :
    Calls Tryz.prog 134 #[v] w fun e w' => e = .returned (.int .i64 (grI l)) ∧ Below w.heap.size w w' := by
  have MX : Hid (0 < l.length → Calls Tryz.prog 159 #[v] w fun e w' => e = .returned (.int .i64 (grI l)) ∧ Below w.heap.size w w') := fun h0 => sqmax_any l v w h h0 hn
  obtain ⟨s, c, rfl⟩ := h.shape
  rw [List.length_map] at h MX ⊢
  have E0 : Hid (l.length = 0 → grI l = -1) := fun e => by rw [List.length_eq_zero_iff.1 e]; rfl
  obtain ⟨R, hR⟩ : ∃ R, R = grI l := ⟨_, rfl⟩
  rw [← hR] at MX E0 ⊢
  obtain ⟨n, hnl⟩ : ∃ n, n = l.length := ⟨_, rfl⟩
  rw [← hnl] at MX hn E0 ⊢
  clear h hnl hR
  go_enter Tryz.func134, Tryz.ntmps134
  by_cases h0 : n = 0
  · have RV := Lib.hid (E0.out h0)
    subst h0
    go_wp2_with fail
    go_ret
    exact ⟨by rw [RV.out]; rfl, Below.refl _ _⟩
  · have MX := Lib.hid (MX.out (by omega))
    have n0 : ((n : Int) == 0) = false := by simp; omega
    clear h0 E0
    go_wp2_with (go_at_call 159; refine MX.out.mono ?_; rintro e w1 ⟨rfl, hb⟩; have B1 := Lib.hid hb; clear hb)
    go_ret
    exact ⟨rfl, B1.out⟩
end Go.Proofs.YtckkcpplanfmhaaGreatDoor.Sha

/-
  The project's own: until when a transaction has to wait. Nothing that was there turns. Conditions: the transaction and the rows lie in memory, at most a million inputs, heights from -1 on.
-/
namespace Go.Proofs.YtckkcpplanfmhaaGreatDoor.Sha
open Go Go.RowKit
theorem info_i64 : (Tryz.prog.info? 2).map (fun i => (i.zero, i.size, i.bytes)) = some (some (.int .i64 0), 1, 8) := by kernel_rfl
theorem intC_one (x : Int) : ∀ v ∈ intC x, v.oneCell' = true := by
  intro v hv
  obtain rfl := List.mem_singleton.1 hv
  rfl
def SqI (E : List (Nat × Int × Nat)) (n : Nat) (w : World) (vh vp vi : Value) (wr : World) : Prop :=
  ∃ (i : Nat) (ah ap : Value), ah = vh ∧ ap = vp ∧ vi = .int .i64 (i : Int) ∧ i ≤ n ∧ RwOwn 1 2 w.heap.size wr ah ((hLs (E.take i)).map intC) ∧ RwOwn 1 2 w.heap.size wr ap ((pLs (E.take i)).map intC) ∧ (ah.ownBlock = none ∨ ah.ownBlock ≠ ap.ownBlock) ∧ Below w.heap.size w wr
/-- What Need answers. -/
def sqV (t : TTx) (hs : List Int) (ps : List Nat) : Int × Int := if t.ver < 2 then (-1, -1) else (grI (hLs (needE t hs ps)), grI (pLs (needE t hs ps)))
theorem sqV_needL {t : TTx} {hs : List Int} {ps : List Nat} (h : ∀ x ∈ hs, 0 ≤ x ∧ x ≤ 1099511627776) : sqV t hs ps = needL t hs ps := by
  unfold sqV needL
  by_cases hv : t.ver < 2
  · rw [if_pos hv, if_pos hv]
  · rw [if_neg hv, if_neg hv]
    refine need_gr (fun e he => ?_)
    unfold needE at he
    obtain ⟨_, h2⟩ := List.of_mem_zip (a := e.1) (b := e.2) he
    obtain ⟨h3, _⟩ := List.of_mem_zip (a := e.2.1) (b := e.2.2) h2
    exact h _ h3
set_option maxHeartbeats 4000000 in
set_option maxRecDepth 100000 in
theorem sqneed_any (w : World) (v vh vp : Value) (t : TTx) (hs : List Int) (ps : List Nat) (h : TxAt w v t) (hh : RwAt 1 w vh (hs.map intC)) (hp : RwAt 1 w vp (ps.map u32C)) (hl1 : hs.length = t.ins.length) (hl2 : ps.length = t.ins.length) (hm : t.ins.length ≤ 1000000) (hho : ∀ x ∈ hs, HtOk x) (hb : ∀ p ∈ ps, p ≤ 4294967295) :
    Calls Tryz.prog 104 #[v, vh, vp] w fun e w' => e = .returned (.tuple #[.int .i64 (sqV t hs ps).1, .int .i64 (sqV t hs ps).2, .bool true]) ∧ Below w.heap.size w w' := by
  obtain ⟨i0, hi, hz0, hz1, hz2⟩ := info_parts info_i64
  obtain ⟨_, iv, ov, rfl, hin, hou⟩ := h
  have TONE : Hid ((txL t iv ov).toArray.all (·.oneCell') = true) := tx_one hin hou
  have LT : Hid ((txL t iv ov).toArray.size = 4) := rfl
  have CO : Hid (∀ (W : World) (g : Nat), W.heap[g]? = some (.cells (txL t iv ov).toArray 27 (0, 0)) → W.cell? ⟨g, 0, none⟩ = some (.int .u32 (t.ver : Int)) ∧ W.cell? ⟨g, 1, none⟩ = some iv) := fun W g hg => ⟨(tx_cells hg).1, (tx_cells hg).2.1⟩
  obtain ⟨si, ci, rfl, _, hgi⟩ := hin
  obtain ⟨sh, ch, rfl⟩ := hh.shape
  obtain ⟨sp, cp, rfl⟩ := hp.shape
  simp only [List.length_map] at hh hp ⊢
  rw [hl1] at hh ⊢
  rw [hl2] at hp ⊢
  obtain ⟨n, hn⟩ : ∃ n, n = t.ins.length := ⟨_, rfl⟩
  rw [← hn] at hl1 hl2 hh hp hm CO TONE LT hgi ⊢
  have N := Lib.hid hn
  have HI := Lib.hid hgi
  have HH := Lib.hid hh
  have HP := Lib.hid hp
  have L1 := Lib.hid hl1
  have L2 := Lib.hid hl2
  have HPB := Lib.hid hb
  have HHO := Lib.hid hho
  have NM := Lib.hid hm
  obtain ⟨E, hE⟩ : ∃ E, E = needE t hs ps := ⟨_, rfl⟩
  have EL : Hid (E.length = n) := by show _ = _; rw [hE]; unfold needE; simp; omega
  have EG : Hid (∀ (i : Nat) (x : TIn) (h : Int) (p : Nat), t.ins[i]? = some x → hs[i]? = some h → ps[i]? = some p → E[i]? = some (x.seq, h, p)) := fun i x h p h1 h2 h3 => by rw [hE]; exact needE_get h1 h2 h3
  have NE : Hid (sqV t hs ps = if t.ver < 2 then (-1, -1) else (grI (hLs E), grI (pLs E))) := by rw [hE]; rfl
  obtain ⟨R, hR⟩ : ∃ R, R = sqV t hs ps := ⟨_, rfl⟩
  rw [← hR] at NE ⊢
  obtain ⟨vr, hvr⟩ : ∃ vr, vr = t.ver := ⟨_, rfl⟩
  rw [← hvr] at NE CO
  obtain ⟨ct, hct⟩ : ∃ ct, ct = txL t (.slice si n ci) ov := ⟨_, rfl⟩
  rw [← hct] at TONE LT CO ⊢
  clear hn hgi hh hp hl1 hl2 hE hR hvr hct hou hb hho hm
  go_enter Tryz.func104, Tryz.ntmps104
  go_upto_region 1 with fail
  have f3 := heap_alloc_new w (.cells ct.toArray 27 (0, 0))
  have b1 := (Below.refl w.heap.size w).alloc (Nat.le_refl _) (.cells ct.toArray 27 (0, 0))
  generalize hw1 : World.alloc _ _ = w1
  have e1 : w.alloc (.cells ct.toArray 27 (0, 0)) = w1 := hw1
  rw [e1] at f3 b1
  obtain ⟨g3, hg3⟩ : ∃ g3, g3 = w.heap.size := ⟨_, rfl⟩
  rw [← hg3] at f3 ⊢
  have F3 := Lib.hid f3
  have B1 := Lib.hid b1
  have c0 := (CO.out _ _ F3.out).1
  have c1 := (CO.out _ _ F3.out).2
  clear f3 b1 hw1 e1 hg3
  by_cases hv2 : vr < 2
  · have v2 : (vr : Int) < 2 := by omega
    have RE : Hid (R = (-1, -1)) := by show _ = _; rw [NE.out, if_pos hv2]
    clear hv2
    go_wp2_with fail
    refine bodyPost_ret (results_t3 rfl _ _) rfl ?_
    exact ⟨by rw [RE.out]; rfl, B1.out⟩
  · have v2 : ¬ (vr : Int) < 2 := by omega
    have RE : Hid (R = (grI (hLs E), grI (pLs E))) := by show _ = _; rw [NE.out, if_neg hv2]
    clear hv2
    go_wp2_with fail
    clear c0 c1
    go_loopw [9, 10, 34] (fun vh vp vi wr => SqI E n w1 vh vp vi wr) (fun _ _ vi _ => n - (intOf vi).toNat)
    case atStart => exact ⟨0, _, _, rfl, rfl, rfl, Nat.zero_le _, RwOwn.nil _ _ _ _, RwOwn.nil _ _ _ _, .inl rfl, Below.refl _ _⟩
    case round =>
      obtain ⟨i, ah, ap, rfl, rfl, rfl, hi2, h1, h2, hne, hb⟩ := hrel
      have AH := Lib.hid h1
      have AP := Lib.hid h2
      have NE2 := Lib.hid hne
      have B := Lib.hid hb
      have BB := Lib.hid (B1.out.trans (hb.mono B1.out.size))
      have F3R := row_below F3.out hb
      have c0 := (CO.out _ _ F3R).1
      have c1 := (CO.out _ _ F3R).2
      clear h1 h2 hne hb F3R
      by_cases hlt : i < n
      · obtain ⟨x, hx⟩ : ∃ x, t.ins[i]? = some x := ⟨_, List.getElem?_eq_getElem (by rw [← N.out]; exact hlt)⟩
        obtain ⟨hv, hhv⟩ : ∃ hv, hs[i]? = some hv := ⟨_, List.getElem?_eq_getElem (by rw [L1.out]; exact hlt)⟩
        obtain ⟨pv, hpv⟩ : ∃ pv, ps[i]? = some pv := ⟨_, List.getElem?_eq_getElem (by rw [L2.out]; exact hlt)⟩
        obtain ⟨bi, oi, rfl, hg⟩ := HI.out (by omega)
        have hin := (hg i x hx).below BB.out
        obtain ⟨ox, kv, hkv, hr⟩ := hin
        have IL : Hid ((inL x kv).toArray.size = 35) := by show _ = _; rw [List.size_toArray, inL_length x kv ox.1]
        have IR := Lib.hid hr
        have IO : Hid ((inL x kv).toArray.all (·.oneCell') = true) := in_one x kv (by obtain ⟨_, _, e⟩ := hkv.2; rw [e]; rfl)
        obtain ⟨bh, oh, rfl, hgh⟩ := (HH.out.below BB.out).get (by omega)
        have ch1 := int_cell (hgh i (intC hv) (by rw [List.getElem?_map, hhv]; rfl))
        obtain ⟨bp, op, rfl, hgp⟩ := (HP.out.below BB.out).get (by omega)
        have cp1 := u32_cell (hgp i (u32C pv) (by rw [List.getElem?_map, hpv]; rfl))
        have pb := HPB.out pv (List.mem_of_getElem? hpv)
        have hvb := HHO.out hv (List.mem_of_getElem? hhv)
        have EI := Lib.hid (EG.out i x hv pv hx hhv hpv)
        have SH := Lib.hid (sel_succ hSel EI.out)
        have SP := Lib.hid (sel_succ pSel EI.out)
        obtain ⟨sq, hsq⟩ : ∃ sq, sq = x.seq := ⟨_, rfl⟩
        have X34 : Hid ((inL x kv)[34]? = some (.int .u32 (sq : Int))) := by show _ = _; rw [inL, List.getElem?_append_right (by simp [ptL, ox.1]), hsq]; simp [ptL, ox.1, nV]
        have sb : sq ≤ 4294967295 := by rw [hsq]; exact ox.2.2
        rw [← hsq] at SH SP
        have LX : Hid ((inL x kv).length = 35) := inL_length x kv ox.1
        obtain ⟨cs, hcs⟩ : ∃ cs, cs = inL x kv := ⟨_, rfl⟩
        rw [← hcs] at X34 IL IR IO LX
        have bm : bits .and .u32 (sq : Int) 65535 = ((sq &&& 65535 : Nat) : Int) := bits_nat (b := 65535) sb (by omega)
        have bl : bits .and .u32 (sq : Int) 2147483648 = ((sq &&& 2147483648 : Nat) : Int) := bits_nat (b := 2147483648) sb (by omega)
        have bt : bits .and .u32 (sq : Int) 4194304 = ((sq &&& 4194304 : Nat) : Int) := bits_nat (b := 4194304) sb (by omega)
        have nb : (sq &&& 65535) ≤ 65535 := Nat.and_le_right
        have HS : Hid (hSel (sq, hv, pv) = if lockB sq then none else if timeB sq then none else some (hv + (spanN sq : Int) - 1)) := rfl
        have PS : Hid (pSel (sq, hv, pv) = if lockB sq then none else if timeB sq then some ((pv : Int) + 512 * (spanN sq : Int) - 1) else none) := rfl
        have LB : Hid (lockB sq = decide (sq &&& 2147483648 ≠ 0)) := rfl
        have TB : Hid (timeB sq = decide (sq &&& 4194304 ≠ 0)) := rfl
        have SN : spanN sq = sq &&& 65535 := rfl
        rw [SN] at HS PS
        obtain ⟨nn, hnn⟩ : ∃ nn, nn = sq &&& 65535 := ⟨_, rfl⟩
        rw [← hnn] at bm nb HS PS
        obtain ⟨lk, hlk⟩ : ∃ lk, lk = sq &&& 2147483648 := ⟨_, rfl⟩
        rw [← hlk] at bl LB
        obtain ⟨tk, htk⟩ : ∃ tk, tk = sq &&& 4194304 := ⟨_, rfl⟩
        rw [← htk] at bt TB
        have DAH : Hid (((hLs (E.take i)).map intC).length ≤ 1000000) := by show _ ≤ _; rw [List.length_map]; have h1 := sel_length hSel (E.take i); rw [List.length_take] at h1; have := NM.out; exact Nat.le_trans h1 (by omega)
        have DAP : Hid (((pLs (E.take i)).map intC).length ≤ 1000000) := by show _ ≤ _; rw [List.length_map]; have h1 := sel_length pSel (E.take i); rw [List.length_take] at h1; have := NM.out; exact Nat.le_trans h1 (by omega)
        have hm := NM.out
        have p0 : 0 ≤ (i : Int) := by omega
        have p1 : (i : Int) < (n : Int) := by omega
        have hv1 : -1 ≤ hv := hvb.1
        have hv2 : hv ≤ 1099511627776 := hvb.2
        have HB1 := Lib.hid hv1
        have HB2 := Lib.hid hv2
        have PB1 := Lib.hid pb
        clear hx hhv hpv hg hr ox hgh hgp hsq hnn hlk htk hcs hkv SN hvb hv1 hv2 pb sb
        obtain ⟨g5, hg5⟩ : ∃ g5, g5 = wr.heap.size := ⟨_, rfl⟩
        obtain ⟨_, f2, f3, f4⟩ := fill_setup (Below.refl wr.heap.size wr) (List.replicate 32 (bV 0) ++ [nV 0, .slice none 0 0, nV 0]).toArray cs.toArray 53
        go_upto_region 9 with ((with_reducible show wpList _ _ _ _ _ _); first | (refine wpList_load_mid rfl 53 (.tmp 37) rfl bi (oi + i * 35) rfl cs _ IR.out Tryz.underlying53 rfl (by rw [LX.out]; kernel_rfl) ?_; go_frame) | (refine wpList_store_row rfl 53 (.tmp 12) (.tmp 38) rfl wr.heap.size cs.toArray rfl rfl 53 _ (heap_alloc_new _ _) (by rw [IL.out]; kernel_rfl) (by rw [IL.out]; rfl) IO.out ?_; go_frame))
        rw [← hg5] at f2 f3 f4 ⊢
        generalize hw5 : World.setRow _ _ _ = w5
        have e5 : World.setRow (wr.alloc (.cells (List.replicate 32 (bV 0) ++ [nV 0, .slice none 0 0, nV 0]).toArray 53)) g5 cs.toArray = w5 := hw5
        rw [e5] at f2 f4
        rw [hg5] at f4
        have c5 : w5.cell? ⟨g5, 34, none⟩ = some (.int .u32 (sq : Int)) := by rw [cell_of_row _ _ _ _ _ _ f2, List.getElem?_toArray]; exact X34.out
        have B5 := Lib.hid (B.out.trans (f4.mono B.out.size))
        have AH5 := Lib.hid (AH.out.keep f4)
        have AP5 := Lib.hid (AP.out.keep f4)
        have ch5 := cell_below ch1 f4
        have cp5 := cell_below cp1 f4
        clear f2 f3 f4 hg5 hw5 e5 c0 c1 ch1 cp1 IR B AH AP
        by_cases hl0 : lk = 0
        · have l0 : ((lk : Int) != 0) = false := by simp; omega
          have LF : Hid (lockB sq = false) := by show _ = _; rw [LB.out]; simpa using hl0
          clear hl0
          by_cases ht0 : tk = 0
          · have t0 : ((tk : Int) != 0) = false := by simp; omega
            have TF : Hid (timeB sq = false) := by show _ = _; rw [TB.out]; simpa using ht0
            clear ht0
            have hv1 := HB1.out
            have hv2 := HB2.out
            have m1 : IntKind.i64.wrap (hv + (nn : Int)) = hv + (nn : Int) := IntWalk.i64_in _ (by omega)
            have m2 : IntKind.i64.wrap (hv + (nn : Int) - 1) = hv + (nn : Int) - 1 := IntWalk.i64_in _ (by omega)
            have SV : Hid (hLs (E.take (i + 1)) = hLs (E.take i) ++ [hv + (nn : Int) - 1]) := by show _ = _; unfold hLs; rw [SH.out, HS.out, LF.out, TF.out]; rfl
            have SW : Hid (pLs (E.take (i + 1)) = pLs (E.take i)) := by show _ = _; unfold pLs; rw [SP.out, PS.out, LF.out, TF.out]; simp
            go_wp2_with (at_builtin; refine wpList_append_own_at _ rfl _ _ 214 rfl w1.heap.size 2 i0 (.int .i64 0) 1 8 Tryz.underlying214 hi hz0 hz1 hz2 rfl (by decide) ah _ ((hLs (E.take i)).map intC).flatten rfl (AH5.out.1.alloc _) ⟨w5.heap.size, 0, none⟩ 1 1 [.int .i64 (hv + (nn : Int) - 1)] rfl rfl (cell_one_new _ _ _) (intC_one _) (by have := DAH.out; unfold maxLen; omega) (by have := DAH.out; omega) (by have := B5.out.size; simp; omega) ?_; intro v3 w3 q1 q2 _ q4; have NV : Hid (RwOwn 1 2 w1.heap.size w3 v3 ((hLs (E.take i)).map intC ++ [intC (hv + (nn : Int) - 1)])) := RwOwn.push AH5.out.2 rfl q1; have B6 := Lib.hid (own_grown (B5.out.alloc B5.out.size _) (Nat.le_refl _) (by have := B5.out.size; simp; omega) (AH5.out.1.alloc _) q2); have al := (Below.refl w5.heap.size w5).alloc (Nat.le_refl _) (.cells #[.int .i64 (hv + (nn : Int) - 1)] 2 (0, 0)); have OV := Lib.hid ((AP5.out.keep al).kept q2 (ne_swap NE2.out)); have NN : Hid (ap.ownBlock = none ∨ ap.ownBlock ≠ v3.ownBlock) := ne_new (ne_swap NE2.out) q4 (fun q hq => ((AP5.out.keep al).1.lt q hq).2); clear q1 q2 q4 al; go_frame)
            go_roundw
            case rel =>
              refine ⟨i + 1, _, _, rfl, rfl, by go_num, by omega, ?_, ?_, ne_swap NN.out, B6.out⟩
              · rw [SV.out, List.map_append]; exact NV.out
              · rw [SW.out]; exact OV.out
            case measure => simp [intOf] <;> omega
          · have t0 : ((tk : Int) != 0) = true := by simp; omega
            have TF : Hid (timeB sq = true) := by show _ = _; rw [TB.out]; simpa using ht0
            clear ht0
            have pb := PB1.out
            have m1 : IntKind.i64.wrap (512 * (nn : Int)) = 512 * (nn : Int) := IntWalk.i64_in _ (by omega)
            have m2 : IntKind.i64.wrap ((pv : Int) + 512 * (nn : Int)) = (pv : Int) + 512 * (nn : Int) := IntWalk.i64_in _ (by omega)
            have m3 : IntKind.i64.wrap ((pv : Int) + 512 * (nn : Int) - 1) = (pv : Int) + 512 * (nn : Int) - 1 := IntWalk.i64_in _ (by omega)
            have SV : Hid (pLs (E.take (i + 1)) = pLs (E.take i) ++ [(pv : Int) + 512 * (nn : Int) - 1]) := by show _ = _; unfold pLs; rw [SP.out, PS.out, LF.out, TF.out]; rfl
            have SW : Hid (hLs (E.take (i + 1)) = hLs (E.take i)) := by show _ = _; unfold hLs; rw [SH.out, HS.out, LF.out, TF.out]; simp
            go_wp2_with (at_builtin; refine wpList_append_own_at _ rfl _ _ 214 rfl w1.heap.size 2 i0 (.int .i64 0) 1 8 Tryz.underlying214 hi hz0 hz1 hz2 rfl (by decide) ap _ ((pLs (E.take i)).map intC).flatten rfl (AP5.out.1.alloc _) ⟨w5.heap.size, 0, none⟩ 1 1 [.int .i64 ((pv : Int) + 512 * (nn : Int) - 1)] rfl rfl (cell_one_new _ _ _) (intC_one _) (by have := DAP.out; unfold maxLen; omega) (by have := DAP.out; omega) (by have := B5.out.size; simp; omega) ?_; intro v3 w3 q1 q2 _ q4; have NV : Hid (RwOwn 1 2 w1.heap.size w3 v3 ((pLs (E.take i)).map intC ++ [intC ((pv : Int) + 512 * (nn : Int) - 1)])) := RwOwn.push AP5.out.2 rfl q1; have B6 := Lib.hid (own_grown (B5.out.alloc B5.out.size _) (Nat.le_refl _) (by have := B5.out.size; simp; omega) (AP5.out.1.alloc _) q2); have al := (Below.refl w5.heap.size w5).alloc (Nat.le_refl _) (.cells #[.int .i64 ((pv : Int) + 512 * (nn : Int) - 1)] 2 (0, 0)); have OV := Lib.hid ((AH5.out.keep al).kept q2 NE2.out); have NN : Hid (ah.ownBlock = none ∨ ah.ownBlock ≠ v3.ownBlock) := ne_new NE2.out q4 (fun q hq => ((AH5.out.keep al).1.lt q hq).2); clear q1 q2 q4 al; go_frame)
            go_roundw
            case rel =>
              refine ⟨i + 1, _, _, rfl, rfl, by go_num, by omega, ?_, ?_, NN.out, B6.out⟩
              · rw [SW.out]; exact OV.out
              · rw [SV.out, List.map_append]; exact NV.out
            case measure => simp [intOf] <;> omega
        · have l0 : ((lk : Int) != 0) = true := by simp; omega
          have LF : Hid (lockB sq = true) := by show _ = _; rw [LB.out]; simpa using hl0
          clear hl0
          have SV : Hid (pLs (E.take (i + 1)) = pLs (E.take i)) := by show _ = _; unfold pLs; rw [SP.out, PS.out, LF.out]; simp
          have SW : Hid (hLs (E.take (i + 1)) = hLs (E.take i)) := by show _ = _; unfold hLs; rw [SH.out, HS.out, LF.out]; simp
          go_wp2_with fail
          go_roundw
          case rel => exact ⟨i + 1, _, _, rfl, rfl, by go_num, by omega, by rw [SW.out]; exact AH5.out, by rw [SV.out]; exact AP5.out, NE2.out, B5.out⟩
          case measure => simp [intOf] <;> omega
      · have hin : i = n := by omega
        have TE : Hid (E.take i = E) := List.take_of_length_le (by rw [EL.out, hin]; exact Nat.le_refl _)
        have LE1 : Hid ((hLs E).length ≤ 4611686018427387904) := by show _ ≤ _; have h1 := sel_length hSel E; rw [EL.out] at h1; have := NM.out; exact Nat.le_trans h1 (by omega)
        have LE2 : Hid ((pLs E).length ≤ 4611686018427387904) := by show _ ≤ _; have h1 := sel_length pSel E; rw [EL.out] at h1; have := NM.out; exact Nat.le_trans h1 (by omega)
        rw [TE.out] at AH AP
        have G1 : Hid (∀ W, Below wr.heap.size wr W → Calls Tryz.prog 134 #[ah] W fun e w' => e = .returned (.int .i64 (grI (hLs E))) ∧ Below W.heap.size W w') := fun W hW => sqgreat_any _ _ W ((AH.out.keep hW).at (by decide)) LE1.out
        have G2 : Hid (∀ W, Below wr.heap.size wr W → Calls Tryz.prog 134 #[ap] W fun e w' => e = .returned (.int .i64 (grI (pLs E))) ∧ Below W.heap.size W w') := fun W hW => sqgreat_any _ _ W ((AP.out.keep hW).at (by decide)) LE2.out
        have i1 : ¬ (i : Int) < (n : Int) := by omega
        clear hin hlt
        go_wp2_with fail
        refine (G1.out _ (Below.refl _ _)).mono ?_
        rintro e w3 ⟨rfl, bb⟩
        have B3 := Lib.hid bb
        clear bb
        go_wp2_with fail
        refine (G2.out _ B3.out).mono ?_
        rintro e w4 ⟨rfl, bb⟩
        have B4 := Lib.hid (BB.out.trans ((B3.out.trans (bb.mono B3.out.size)).mono BB.out.size))
        clear bb
        go_wp2_with fail
        refine bodyPost_ret (results_t3 rfl _ _) rfl ?_
        exact ⟨by rw [RE.out]; rfl, B4.out⟩
end Go.Proofs.YtckkcpplanfmhaaGreatDoor.Sha

/-
  One input that waits: what its bits say, and when it is met. Pure. Conditions: none.
-/
namespace Go.Proofs.YtckkcpplanfmhaaGreatDoor.Sha
open Go Go.RowKit
theorem and_bit (s i : Nat) : s &&& 2 ^ i = if s / 2 ^ i % 2 = 1 then 2 ^ i else 0 := by
  apply Nat.eq_of_testBit_eq
  intro j
  rw [Nat.testBit_and, Nat.testBit_two_pow]
  by_cases e : i = j
  · subst e
    rw [Nat.testBit_eq_decide_div_mod_eq]
    by_cases h : s / 2 ^ i % 2 = 1
    · rw [if_pos h, Nat.testBit_two_pow]; simp [h]
    · rw [if_neg h]; simp [h]
  · by_cases h : s / 2 ^ i % 2 = 1
    · rw [if_pos h, Nat.testBit_two_pow]; simp [e]
    · rw [if_neg h]; simp [e]
theorem lockB_div (s : Nat) : lockB s = decide (s / 2147483648 % 2 = 1) := by
  have h := and_bit s 31
  rw [show (2 : Nat) ^ 31 = 2147483648 by decide] at h
  unfold lockB
  rw [h]
  by_cases h2 : s / 2147483648 % 2 = 1
  · simp [h2]
  · simp [h2]
theorem timeB_div (s : Nat) : timeB s = decide (s / 4194304 % 2 = 1) := by
  have h := and_bit s 22
  rw [show (2 : Nat) ^ 22 = 4194304 by decide] at h
  unfold timeB
  rw [h]
  by_cases h2 : s / 4194304 % 2 = 1
  · simp [h2]
  · simp [h2]
theorem spanN_mod (s : Nat) : spanN s = s % 65536 := by
  unfold spanN
  exact Nat.and_two_pow_sub_one_eq_mod s 16
theorem or_time {n : Nat} (h : n < 4194304) : n ||| 4194304 = n + 4194304 := by
  have h1 := Nat.two_pow_add_eq_or_of_lt (i := 22) (b := n) h 1
  rw [show (2 : Nat) ^ 22 * 1 = 4194304 by decide] at h1
  rw [Nat.or_comm, ← h1, Nat.add_comm]
theorem bits_or_nat {a b : Nat} (ha : a ≤ 4294967295) (hb : b ≤ 4294967295) : bits .or .u32 (a : Int) (b : Int) = ((a ||| b : Nat) : Int) := by
  have h := wv_or (UInt32.ofNat a) (UInt32.ofNat b)
  have e1 : wv (UInt32.ofNat a) = (a : Int) := by unfold wv; rw [UInt32.toNat_ofNat']; omega
  have e2 : wv (UInt32.ofNat b) = (b : Int) := by unfold wv; rw [UInt32.toNat_ofNat']; omega
  rw [e1, e2] at h
  rw [h]
  unfold wv
  rw [UInt32.toNat_or, UInt32.toNat_ofNat', UInt32.toNat_ofNat', Nat.mod_eq_of_lt (by omega), Nat.mod_eq_of_lt (by omega)]
theorem time_names {n : Nat} (h : n < 65536) : ∃ t : Nat, Hid (t = n ||| 4194304) ∧ Hid (bits .or .u32 (n : Int) 4194304 = (t : Int)) ∧ Hid (t < 2147483648) :=
  Exists.intro (n ||| 4194304) ⟨Lib.hid (Eq.refl _), Lib.hid (bits_or_nat (a := n) (b := 4194304) (by omega) (by omega)), Lib.hid (by rw [or_time (by omega)]; omega)⟩
/-- An input that has nothing but its Seq. -/
def sqX (s : Nat) : TIn := ⟨zH, 0, [], s⟩
def sqT (ver s : Nat) : TTx := ⟨ver, [sqX s], [], 0⟩
def sqmetB (t : TTx) (hs : List Int) (ps : List Nat) (height : Int) (past : Nat) : Bool := decide ((sqV t hs ps).1 < height) && decide ((sqV t hs ps).2 < (past : Int))
theorem needE_one (v s c p : Nat) : needE (sqT v s) [(c : Int)] [p] = [(s, (c : Int), p)] := rfl
theorem sel_one {α β : Type} (f : α → Option β) (e : α) : [e].filterMap f = (f e).toList := by cases hf : f e <;> simp [hf]
theorem sqV_two (s c p : Nat) : sqV (sqT 2 s) [(c : Int)] [p] = (grI (hSel (s, (c : Int), p)).toList, grI (pSel (s, (c : Int), p)).toList) := by
  unfold sqV
  refine (if_neg (show ¬ (2 : Nat) < 2 by omega)).trans ?_
  rw [needE_one]
  unfold hLs pLs
  rw [sel_one, sel_one]
theorem sqV_plain {n c p : Nat} (h : n < 65536) : sqV (sqT 2 n) [(c : Int)] [p] = ((c : Int) + n - 1, -1) := by
  have e1 : lockB n = false := by rw [lockB_div]; simp; omega
  have e2 : timeB n = false := by rw [timeB_div]; simp; omega
  rw [sqV_two]
  simp only [hSel, pSel, e1, e2, spanN_mod, Nat.mod_eq_of_lt h]
  rfl
theorem sqV_time {n c p : Nat} (h : n < 65536) : sqV (sqT 2 (n ||| 4194304)) [(c : Int)] [p] = (-1, (p : Int) + 512 * n - 1) := by
  rw [or_time (by omega), sqV_two]
  have e1 : lockB (n + 4194304) = false := by rw [lockB_div]; simp; omega
  have e2 : timeB (n + 4194304) = true := by rw [timeB_div]; simp; omega
  have e3 : spanN (n + 4194304) = n := by rw [spanN_mod]; omega
  simp only [hSel, pSel, e1, e2, e3]
  rfl
end Go.Proofs.YtckkcpplanfmhaaGreatDoor.Sha
