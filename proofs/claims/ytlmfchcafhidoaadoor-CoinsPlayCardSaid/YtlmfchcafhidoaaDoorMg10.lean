/-
  Texts of this proof joined into one file: CnRefAdd, CnRefGet, RefSmall. What each holds, and under which conditions, its own first sentence tells.
-/
import Derived.Test.YtlmfchcafhidoaaDoorMg09
import Derived.Test.YtlmfchcafhidoaaDoorMg04
import Derived.Test.YtlmfchcafhidoaaDoorMg05
import Derived.Test.YtlmfchcafhidoaaDoorMg03
/-
  The statements' own set: a coin is added; its box alone turns. Conditions: the set lies where the pointer says, in order, at most 2^20 coins; a place, a coin as the model has them.
-/
namespace Go.Proofs.YtlmfchcafhidoaaDoor.Sha
open Go Go.RowKit
section
variable {L : List TSp} {p : TPt}
theorem ins_sorted {x : TSp} (hs : SortedC L) (ho : ∀ y ∈ L, SpOk y) (hx : SpOk x) {k : Nat} (hr : Rank L x.at_ k) (hn : getC L x.at_ = none) : SortedC (L.take k ++ [x] ++ L.drop k) := by
  have hs' : (L.take k ++ L.drop k).Pairwise (fun x y => ltSp x y = true) := by rw [List.take_append_drop]; exact hs
  obtain ⟨h1, h2, h3⟩ := List.pairwise_append.1 hs'
  have hlo : ∀ y ∈ L.take k, ltSp y x = true := fun y hy => by
    obtain ⟨i, hi⟩ := List.getElem?_of_mem hy
    have hlt := (List.getElem?_eq_some_iff.1 hi).1
    rw [List.length_take] at hlt
    rw [List.getElem?_take_of_lt (by omega)] at hi
    exact hr.2.1 i y hi (by omega)
  have hhi : ∀ y ∈ L.drop k, ltSp x y = true := fun y hy => by
    obtain ⟨i, hi⟩ := List.getElem?_of_mem hy
    rw [List.getElem?_drop] at hi
    have h4 := hr.2.2 (k + i) y hi (by omega)
    exact ltSp_total (ho y (List.mem_of_mem_drop hy)) hx (getC_ne hn y (List.mem_of_mem_drop hy)) h4
  refine List.pairwise_append.2 ⟨List.pairwise_append.2 ⟨h1, List.pairwise_singleton _ _, fun y hy z hz => ?_⟩, h2, fun y hy z hz => ?_⟩
  · rw [List.mem_singleton.1 hz]
    exact hlo y hy
  · rcases List.mem_append.1 hy with hy | hy
    · exact h3 y hy z hz
    · rw [List.mem_singleton.1 hy]
      exact hhi z hz
theorem ins_perm (x : TSp) (k : Nat) : (L.take k ++ [x] ++ L.drop k).Perm (L ++ [x]) := by
  have h : (L.take k ++ [x] ++ L.drop k).Perm (L.take k ++ (L.drop k ++ [x])) := by
    rw [List.append_assoc]
    exact List.perm_append_comm.append_left _
  refine h.trans ?_
  rw [← List.append_assoc, List.take_append_drop]
theorem del_eq {x : TSp} (hs : SortedC L) {k : Nat} (hk : L[k]? = some x) (hx : x.at_ = p) : L.take k ++ L.drop (k + 1) = delC L p := by
  rw [← delC_idx (sorted_apart hs) hk hx, List.eraseIdx_eq_take_drop_succ]
theorem del_sorted (hs : SortedC L) : SortedC (delC L p) := List.Pairwise.filter _ hs
theorem getC_mem {l : List TSp} {c : TMn} (h : getC l p = some c) : ∃ x ∈ l, x.at_ = p ∧ x.coin = c := by
  unfold getC at h
  obtain ⟨x, hx, rfl⟩ := Option.map_eq_some_iff.1 h
  exact ⟨x, List.mem_of_find?_eq_some hx, by simpa using List.find?_some hx, rfl⟩
theorem getC_perm {l : List TSp} (hp : L.Perm l) (ha : L.Pairwise (fun x y => x.at_ ≠ y.at_)) : getC L p = getC l p := by
  cases h : getC l p with
  | none => exact getC_none fun x hx => getC_ne h x (hp.mem_iff.1 hx)
  | some c =>
    obtain ⟨x, hx, h1, rfl⟩ := getC_mem h
    obtain ⟨j, hj⟩ := List.getElem?_of_mem (hp.mem_iff.2 hx)
    exact getC_some ha hj h1
theorem addR_perm {l : List TSp} {c : TMn} (h : getC L p = getC l p) : addR L p c = addR l p c := by unfold addR; rw [h]
theorem addL_perm {l : List TSp} {c : TMn} (hp : L.Perm l) (h : getC L p = getC l p) : (addL L p c).Perm (addL l p c) := by
  unfold addL
  rw [addR_perm h]
  split
  · exact hp.append_right _
  · exact hp
theorem delC_perm {l : List TSp} (hp : L.Perm l) : (delC L p).Perm (delC l p) := hp.filter _
theorem worth_perm {l : List TSp} (hp : L.Perm l) : worthC L = worthC l := by
  unfold worthC
  exact List.Perm.sum_nat (hp.map _)
end
theorem rank_get {L : List TSp} {p : TPt} (hs : SortedC L) {k : Nat} (hr : Rank L p k) (h : (getC L p).isSome = true) : ∃ x, L[k]? = some x ∧ x.at_ = p ∧ getC L p = some x.coin := by
  cases hg : getC L p with
  | none => rw [hg] at h; cases h
  | some c =>
    obtain ⟨x, hx, h1, rfl⟩ := getC_mem hg
    obtain ⟨j, hj⟩ := List.getElem?_of_mem hx
    have e := rank_there hs hr hj h1
    rw [e] at hj
    exact ⟨x, hj, h1, rfl⟩
theorem addL_zero' {l : List TSp} {p : TPt} {c : TMn} (h : addR l p c = 0) : addL l p c = l ++ [⟨p, c⟩] := by
  unfold addL
  rw [if_pos h]
set_option maxHeartbeats 4000000 in
set_option maxRecDepth 100000 in
theorem radd_any (w : World) (base a : Nat) (v : Value) (L : List TSp) (p : TPt) (c : TMn) (h : RefAt w base a v L) (hs : SortedC L) (ho : ∀ x ∈ L, SpOk x) (hp : PtOk p) (hc : MnOk c) (hn : L.length ≤ 1048576) (hbase : base ≤ w.heap.size) :
    Calls Tryd.prog 13 #[.pointer (some ⟨a, 0, none⟩), .agg (ptC p).toArray, .agg (mnL c).toArray] w fun e w' =>
      e = .returned (.int .i64 (numE (addR L p c))) ∧ ∃ v' L', L'.Perm (addL L p c) ∧ SortedC L' ∧ RefAt w' base a v' L' ∧ Kps (fun j => j ≠ a) w w' := by
  obtain ⟨i0, hi, hz0, hz1, hz2⟩ := info_parts info_spent
  have HS := Lib.hid hs
  have OK := Lib.hid ho
  have HP := Lib.hid hp
  have HC := Lib.hid hc
  have NL := Lib.hid hn
  have BS0 := Lib.hid hbase
  have PSZ : Hid ((ptC p).toArray.size = 33) := ptC_size hp
  have CSZ : Hid ((mnL c).toArray.size = 35) := mnL_size hc
  have BT : Hid (Tryd.prog.built 45 [(0, .agg (ptC p).toArray), (1, .agg (mnL c).toArray)] = some (spL ⟨p, c⟩).toArray) := built_sp ⟨p, c⟩ ⟨hp, hc⟩
  have LX : Hid ((spL ⟨p, c⟩).length = 68) := spL_length (x := ⟨p, c⟩) ⟨hp, hc⟩
  have LO : Hid (∀ v ∈ spL ⟨p, c⟩, v.oneCell' = true) := spL_one _
  have AL : Hid (a < w.heap.size) := (Array.getElem?_eq_some_iff.1 h.box).1
  have HPL : Hid (∀ W, RefAt W base a v L → Calls Tryd.prog 30 #[.pointer (some ⟨a, 0, none⟩), .agg (ptC p).toArray] W fun e w' => ∃ k : Nat, e = .returned (.tuple #[.int .i64 (k : Int), .bool (getC L p).isSome]) ∧ Rank L p k ∧ Below W.heap.size W w') := fun W hW => rplace_any W base a v L p hW hs ho hp hn
  obtain ⟨vc, hvc⟩ : ∃ vc, vc = c.val := ⟨_, rfl⟩
  have VC := Lib.hid hvc
  have CV : Hid (∀ (W : World) (g : Nat), W.heap[g]? = some (.cells (mnL c).toArray 39 (0, 0)) → W.cell? ⟨g, 0, none⟩ = some (.int .u64 (vc : Int))) := fun W g hg => by
    rw [hvc]
    exact mn_val (range_of_box hg)
  have vcb : (vc : Int) ≤ 18446744073709551615 := by have := hc.2.1; omega
  obtain ⟨cp, hcp⟩ : ∃ cp, cp = ptC p := ⟨_, rfl⟩
  obtain ⟨cm, hcm⟩ : ∃ cm, cm = mnL c := ⟨_, rfl⟩
  obtain ⟨sx, hsx⟩ : ∃ sx, sx = spL ⟨p, c⟩ := ⟨_, rfl⟩
  rw [← hcp] at PSZ BT HPL ⊢
  rw [← hcm] at CSZ BT CV ⊢
  rw [← hsx] at BT LX LO
  have SX := Lib.hid hsx
  obtain ⟨sp, cap, rfl⟩ := h.at.shape
  rw [List.length_map] at h HPL
  obtain ⟨n, hnl⟩ : ∃ n, n = L.length := ⟨_, rfl⟩
  rw [← hnl] at h HPL
  have N := Lib.hid hnl
  have RA0 := Lib.hid h
  obtain ⟨r, hr⟩ : ∃ r, r = addR L p c := ⟨_, rfl⟩
  rw [← hr]
  have RR := Lib.hid hr
  clear hs ho hp hc hn hbase h hcp hcm hsx hnl hvc hr
  go_enter Tryd.func13, Tryd.ntmps13
  go_upto_region 1 with fail
  have f3 := row_below (heap_alloc_new w (.cells cp.toArray 27 (0, 0))) ((Below.refl _ _).alloc (Nat.le_refl _) (.cells cm.toArray 39 (0, 0)))
  have f4 := heap_alloc_new (w.alloc (.cells cp.toArray 27 (0, 0))) (.cells cm.toArray 39 (0, 0))
  have b0 := ((Below.refl w.heap.size w).alloc (Nat.le_refl _) (.cells cp.toArray 27 (0, 0))).alloc (by simp) (.cells cm.toArray 39 (0, 0))
  rw [World.size_alloc] at f4
  generalize hw1 : World.alloc _ _ = w1
  have e1 : (w.alloc (.cells cp.toArray 27 (0, 0))).alloc (.cells cm.toArray 39 (0, 0)) = w1 := hw1
  rw [e1] at f3 f4 b0
  obtain ⟨g4, hg4⟩ : ∃ g4, g4 = w.heap.size := ⟨_, rfl⟩
  rw [← hg4] at f3 f4 ⊢
  have F4 := Lib.hid f3
  have F5 := Lib.hid f4
  have B1 := Lib.hid b0
  have RA1 := Lib.hid (RA0.out.below b0)
  have cv := CV.out _ _ f4
  clear f3 f4 b0 hw1 e1 hg4 RA0
  by_cases hbig : 2100000000000000 < vc
  · have hb' : (2100000000000000 : Int) < (vc : Int) := by omega
    have h5 : Hid (r = 5) := by show _ = _; rw [RR.out]; exact addR_great (by rw [← VC.out]; exact hbig)
    go_wp2_with fail
    go_ret
    exact ⟨by rw [h5.out]; rfl, _, L, by rw [addL_not (c := 4) (by rw [← RR.out]; exact h5.out)], HS.out, RA1.out, Kps.new B1.out⟩
  have hb' : ¬ (2100000000000000 : Int) < (vc : Int) := by omega
  have VL : Hid (c.val ≤ 2100000000000000) := by show _ ≤ _; rw [← VC.out]; omega
  clear hbig
  go_wp2_with ((with_reducible show wpList _ _ _ _ _ _); (refine wpList_load_row rfl 27 (.tmp 4) rfl g4 rfl 27 cp.toArray (0, 0) _ F4.out Tryd.underlying27 rfl (by rw [PSZ.out]; kernel_rfl) ?_; go_frame))
  refine (HPL.out w1 RA1.out).mono ?_
  rintro e w2 ⟨k, rfl, rk, b2⟩
  have RK := Lib.hid rk
  have RA := Lib.hid (RA1.out.below b2)
  have B2 := Lib.hid (B1.out.trans (b2.mono B1.out.size))
  have F4 := Lib.hid (row_below F4.out b2)
  have F5 := Lib.hid (row_below F5.out b2)
  clear rk b2 RA1 cv hb'
  obtain ⟨q, hq⟩ : ∃ q, q = (getC L p).isSome := ⟨_, rfl⟩
  rw [← hq]
  cases q with
  | true =>
    have h6 : Hid (r = 6) := by show _ = _; rw [RR.out]; exact addR_there VL.out hq.symm
    clear hq
    go_wp2_with fail
    go_ret
    exact ⟨by rw [h6.out]; rfl, _, L, by rw [addL_not (c := 5) (by rw [← RR.out]; exact h6.out)], HS.out, RA.out, Kps.new B2.out⟩
  | false =>
    have GN : Hid (getC L p = none) := getC_opt hq.symm
    have AR : Hid (addR L p c = 0) := addR_fits VL.out GN.out
    obtain rfl : r = 0 := by rw [RR.out]; exact AR.out
    have KN : Hid (k ≤ n) := by show _ ≤ _; rw [N.out]; exact RK.out.1
    have KC : Hid (k ≤ cap) := Nat.le_trans KN.out RA.out.at.len.2
    obtain ⟨sl, hsl⟩ : ∃ sl, sl = sliced sp 0 k cap 68 := ⟨_, rfl⟩
    have S1 := Lib.hid hsl
    have RT : Hid (RwAt 68 w2 sl ((L.take k).map spL)) := by
      have h := RA.out.at.cut 0 k (Nat.zero_le _) KN.out
      rw [List.drop_zero, ← List.map_take, ← hsl] at h
      exact h
    have SP : Hid (∀ W, Below w2.heap.size w2 W → Calls Tryd.prog 31 #[sl] W fun e w' => ∃ v', e = .returned v' ∧ RwOwn 68 45 W.heap.size w' v' ((L.take k).map spL) ∧ Below W.heap.size W w') := fun W hW => rspents_any _ _ W (RT.out.below hW) (fun x hx => OK.out x (List.mem_of_mem_take hx)) (by rw [List.length_take]; have := NL.out; omega)
    have HTL : Hid (((L.take k).map spL).length ≤ 1048576) := by show _ ≤ _; rw [List.length_map, List.length_take]; have := NL.out; omega
    have BS : Hid (base ≤ w2.heap.size) := Nat.le_trans BS0.out B2.out.size
    have NB : Hid (n ≤ 1048576) := by show _ ≤ _; rw [N.out]; exact NL.out
    have p0 : 0 ≤ (k : Int) := by omega
    have q0 : (k : Int) ≤ (n : Int) := by have := KN.out; omega
    clear hq hsl
    go_upto_region 6 with fail
    refine wp_region_held_drew (S := (fun w' => Below w2.heap.size w2 w')) (by kernel_rfl) (Below.drew (Below.refl _ _)) (fun hHeld => ?_)
    generalize hwd : w2.drew = wd at  hHeld ⊢
    clear hwd
    refine held_take (i := 0) (v := (.pointer (some ⟨a, 0, none⟩))) rfl (by kernel_rfl) (by kernel_rfl) (by kernel_rfl) (fun _ _ _ h => h) (Or.inl ⟨by rfl, fun w' _ => by kernel_rfl⟩) hHeld ?_
    go_frame
    refine held_take (i := 1) (v := (.pointer (some ⟨a, 0, none⟩))) rfl (by kernel_rfl) (by kernel_rfl) (by kernel_rfl) (fun _ _ _ h => h) (Or.inl ⟨by rfl, fun w' _ => by kernel_rfl⟩) hHeld ?_
    go_frame
    refine held_take (i := 2) (v := (.pointer (some ⟨a, 0, none⟩))) rfl (by kernel_rfl) (by kernel_rfl) (by kernel_rfl) (fun _ _ _ h => h) (Or.inl ⟨by rfl, fun w' _ => by kernel_rfl⟩) hHeld ?_
    go_frame
    refine held_take (i := 3) (v := (.slice sp n cap)) rfl (by kernel_rfl) (by kernel_rfl) (by kernel_rfl) (fun _ _ _ h => h) (yieldsIf_load_one (by rfl) 34 (.tmp 22) rfl a (0) rfl _ _ (fun w' hw' => (RA.out.below hw').cell) Tryd.underlying34 rfl) hHeld ?_
    go_frame
    refine held_take (i := 4) (v := (.int .i64 (k : Int))) rfl (by kernel_rfl) (by kernel_rfl) (by kernel_rfl) (fun _ _ _ h => h) (Or.inl ⟨by rfl, fun w' _ => by kernel_rfl⟩) hHeld ?_
    go_frame
    refine held_take (i := 5) (v := sl) rfl (by kernel_rfl) (by kernel_rfl) (by kernel_rfl) (fun _ _ _ h => h) (yields_cutS_h (by rfl) 34 _ _ rfl 45 68 Tryd.underlying34 (by kernel_rfl) sp n cap k sl rfl rfl KC.out S1.out) hHeld ?_
    go_frame
    refine held_take (i := 7) (v := (.agg cp.toArray)) rfl (by kernel_rfl) (by kernel_rfl) (by kernel_rfl) (fun _ _ _ h => h) (yieldsIf_load_row (by rfl) 27 (.tmp 4) rfl g4 rfl 27 cp.toArray (0, 0) _ (fun w' hw' => row_below F4.out hw') Tryd.underlying27 rfl (by rw [PSZ.out]; kernel_rfl)) hHeld ?_
    go_frame
    refine held_take (i := 8) (v := (.agg cm.toArray)) rfl (by kernel_rfl) (by kernel_rfl) (by kernel_rfl) (fun _ _ _ h => h) (yieldsIf_load_row (by rfl) 39 (.tmp 5) rfl (g4 + 1) rfl 39 cm.toArray (0, 0) _ (fun w' hw' => row_below F5.out hw') Tryd.underlying39 rfl (by rw [CSZ.out]; kernel_rfl)) hHeld ?_
    go_frame
    refine held_take (i := 9) (v := (.agg sx.toArray)) rfl (by kernel_rfl) (by kernel_rfl) (by kernel_rfl) (fun _ _ _ h => h) (yieldsIf_build (by rfl) 45 _ rfl [(0, .agg cp.toArray), (1, .agg cm.toArray)] (by kernel_rfl) _ BT.out) hHeld ?_
    go_frame
    refine wpAnyH_ready (rs := [6, 10]) (by kernel_rfl) (by simp) (held_cons rfl (fun K hK => ?_) (held_cons rfl (fun K hK => ?_) AllReadyH.nil))
    · skip
      go_simp
      refine (SP.out _ hHeld).mono ?_
      rintro e v1 ⟨vs, rfl, os, bb⟩
      have OS : Hid (RwOwn 68 45 w2.heap.size v1 vs ((L.take k).map spL)) := os.lower hHeld.size
      clear os
      have hv1 := hHeld.trans (bb.mono hHeld.size)
      clear bb hHeld
      go_wp2_with fail
      refine hK.out _ _ hv1 (fun hHeld => ?_)
      clear hK K hv1
      refine wpAnyH_ready (rs := [10]) (by kernel_rfl) (by simp) (held_cons rfl (fun K hK => ?_) AllReadyH.nil)
      rw [if_pos (by rfl)]
      refine wp_slice_one 34 45 (.tmp 29) rfl (sx) rfl Tryd.underlying34 i0 _ hi hz0 (by rw [hz1, LX.out]) (by rw [LX.out]; omega) (by rw [LX.out]; omega) ?_
      have nf := heap_alloc_new v1 (.cells (sx).toArray 45 (0, 0))
      have bb := (Below.refl v1.heap.size v1).alloc (Nat.le_refl _) (.cells (sx).toArray 45 (0, 0))
      obtain ⟨gv2, hgv2⟩ : ∃ g, g = v1.heap.size := ⟨_, rfl⟩
      generalize hqv2 : World.alloc _ _ = v2
      have ev2 : v1.alloc (.cells (sx).toArray 45 (0, 0)) = v2 := hqv2
      rw [ev2] at nf bb
      rw [← hgv2] at nf ⊢
      have NF := Lib.hid nf
      have OS := Lib.hid (OS.out.keep bb)
      have hv2 := hHeld.trans (bb.mono hHeld.size)
      clear nf bb hqv2 ev2 hgv2 hHeld
      go_frame
      refine hK.out _ _ hv2 (fun hHeld => ?_)
      clear hK K hv2
      refine wpAnyH_ready (rs := [11]) (by kernel_rfl) (by simp) (held_cons rfl (fun K hK => ?_) AllReadyH.nil)
      rw [if_pos (by rfl)]
      refine wp_append_rw v2 (.tmp 26) (.tmp 30) 34 rfl w2.heap.size 45 i0 (.agg (spL ⟨⟨List.replicate 32 0, 0⟩, mnZ⟩).toArray) 68 96 Tryd.underlying34 hi hz0 hz1 hz2 (by kernel_rfl) (by decide) vs _ rfl OS.out (.slice (some ⟨gv2, 0, none⟩) 1 1) [sx] rfl (RwAt.one NF.out LX.out) (fun m hm => by rw [List.mem_singleton.1 hm]; exact LO.out) (by have := HTL.out; rw [List.length_singleton]; omega) (by have := HTL.out; rw [List.length_singleton]; unfold maxLen; omega) hHeld.size ?_
      intro xv3 v3 q1 q2
      have OR := Lib.hid q1
      have hv3 := own_grown hHeld (Nat.le_refl _) hHeld.size OS.out.1 q2
      clear q1 q2 hHeld
      go_frame
      refine hK.out _ _ hv3 (fun hHeld => ?_)
      clear hK K hv3
      refine held_take (i := 12) (v := xv3) rfl (by kernel_rfl) (by kernel_rfl) (by kernel_rfl) (fun _ _ _ h => h) (Or.inl ⟨by rfl, fun w' _ => by kernel_rfl⟩) hHeld ?_
      go_frame
      refine wpAnyH_done (by kernel_rfl) ?_ _
      have B6 := Lib.hid hHeld
      have RA6 := Lib.hid (RA.out.below hHeld)
      have BS6 : Hid (base ≤ v3.heap.size) := Nat.le_trans BS.out B6.out.size
      clear hHeld
      have rc := RA6.out.cell
      have RD : Hid (RwAt 68 v3 (sliced sp k n cap 68) ((L.drop k).map spL)) := by
        have h := RA6.out.at.cut k n KN.out (Nat.le_refl _)
        rw [List.take_of_length_le (by rw [List.length_map, ← N.out]; exact Nat.le_refl _), ← List.map_drop] at h
        exact h
      have LN : Hid (((L.take k).map spL ++ [sx]).length + ((L.drop k).map spL).length ≤ 1048577) := by
        show _ ≤ _
        have := N.out
        have := KN.out
        have := NL.out
        rw [List.length_append, List.length_map, List.length_take, List.length_singleton, List.length_map, List.length_drop]
        omega
      have BX6 := Lib.hid (show v3.heap[a]? = some (.cells ([] ++ [Value.slice sp n cap] ++ []).toArray 36 (0, 0)) from RA6.out.box)
      go_upto_region 8 with (first | (at_builtin; refine wpList_append_rw _ rfl (.tmp 33) (.tmp 39) 34 rfl w2.heap.size 45 i0 (.agg (spL ⟨⟨List.replicate 32 0, 0⟩, mnZ⟩).toArray) 68 96 Tryd.underlying34 hi hz0 hz1 hz2 (by kernel_rfl) (by decide) xv3 _ rfl OR.out _ _ (by first | rfl | exact S7.out) RD.out (sps_one _) (by have := LN.out; omega) (by have := LN.out; unfold maxLen; omega) B6.out.size ?_; intro v8 w8 q1 q2; obtain ⟨sp8, n8, cap8, rfl⟩ : ∃ sp n cap, v8 = .slice sp n cap := (let ⟨s, c, e⟩ := (RwOwn.at q1 (by omega)).shape; ⟨s, _, c, e⟩); have O8 := Lib.hid q1; have G8 := Lib.hid q2; have B8 := Lib.hid (own_grown B6.out (Nat.le_refl _) B6.out.size OR.out.1 q2); have BX8 := Lib.hid (row_below (RA.out.below B8.out).box (Below.refl _ _)); clear q1 q2; go_frame) | ((with_reducible show wpList _ _ _ _ _ _); first | (refine wpList_cutS_l rfl 34 (.tmp 37) (.tmp 38) rfl 45 68 Tryd.underlying34 (by kernel_rfl) sp n cap k rfl rfl KN.out ?_; intro s7 q1; have S7 := Lib.hid q1.out; clear q1; go_frame) | (refine wpList_store_part rfl 34 (.tmp 42) (.tmp 40) rfl a 0 [] [Value.slice sp n cap] [] [Value.slice sp8 n8 cap8] 36 (.slice sp8 n8 cap8) rfl rfl rfl rfl rfl BX8.out (by kernel_rfl) (fun u hu => by rw [List.mem_singleton.1 hu]; rfl) ?_; intro w9 q1 q2; have Q1 := Lib.hid q1; have Q2 := Lib.hid q2; clear q1 q2; go_frame)))
      go_wp2_with fail
      go_ret
      refine ⟨rfl, _, L.take k ++ [⟨p, c⟩] ++ L.drop k, ?_, ?_, ⟨Q1.out, ?_⟩, ?_⟩
      · rw [addL_zero' AR.out]
        exact ins_perm _ _
      · exact ins_sorted (x := ⟨p, c⟩) HS.out OK.out ⟨HP.out, HC.out⟩ RK.out GN.out
      · have e : (L.take k ++ [(⟨p, c⟩ : TSp)] ++ L.drop k).map spL = (L.take k).map spL ++ [sx] ++ (L.drop k).map spL := by rw [List.map_append, List.map_append, List.map_singleton, SX.out]
        rw [e]
        exact (O8.out.lower BS.out).kept Q2.out (.inr fun e => by have h1 := (O8.out.1.lt _ e).1; have := AL.out; have := B2.out.size; omega)
      · exact (Kps.new (B2.out.trans (B8.out.mono B2.out.size))).trans (Kps.grown Q2.out fun k _ hk e => hk (Option.some.inj e))
    · skip
      rw [if_pos (by rfl)]
      refine wp_slice_one 34 45 (.tmp 29) rfl (sx) rfl Tryd.underlying34 i0 _ hi hz0 (by rw [hz1, LX.out]) (by rw [LX.out]; omega) (by rw [LX.out]; omega) ?_
      have nf := heap_alloc_new wd (.cells (sx).toArray 45 (0, 0))
      have bb := (Below.refl wd.heap.size wd).alloc (Nat.le_refl _) (.cells (sx).toArray 45 (0, 0))
      obtain ⟨gv4, hgv4⟩ : ∃ g, g = wd.heap.size := ⟨_, rfl⟩
      generalize hqv4 : World.alloc _ _ = v4
      have ev4 : wd.alloc (.cells (sx).toArray 45 (0, 0)) = v4 := hqv4
      rw [ev4] at nf bb
      rw [← hgv4] at nf ⊢
      have NF := Lib.hid nf
      have hv4 := hHeld.trans (bb.mono hHeld.size)
      clear nf bb hqv4 ev4 hgv4 hHeld
      go_frame
      refine hK.out _ _ hv4 (fun hHeld => ?_)
      clear hK K hv4
      refine wpAnyH_ready (rs := [6]) (by kernel_rfl) (by simp) (held_cons rfl (fun K hK => ?_) AllReadyH.nil)
      go_simp
      refine (SP.out _ hHeld).mono ?_
      rintro e v5 ⟨vs, rfl, os, bb⟩
      have OS : Hid (RwOwn 68 45 w2.heap.size v5 vs ((L.take k).map spL)) := os.lower hHeld.size
      clear os
      have NF := Lib.hid (row_below NF.out bb)
      have hv5 := hHeld.trans (bb.mono hHeld.size)
      clear bb hHeld
      go_wp2_with fail
      refine hK.out _ _ hv5 (fun hHeld => ?_)
      clear hK K hv5
      refine wpAnyH_ready (rs := [11]) (by kernel_rfl) (by simp) (held_cons rfl (fun K hK => ?_) AllReadyH.nil)
      rw [if_pos (by rfl)]
      refine wp_append_rw v5 (.tmp 26) (.tmp 30) 34 rfl w2.heap.size 45 i0 (.agg (spL ⟨⟨List.replicate 32 0, 0⟩, mnZ⟩).toArray) 68 96 Tryd.underlying34 hi hz0 hz1 hz2 (by kernel_rfl) (by decide) vs _ rfl OS.out (.slice (some ⟨gv4, 0, none⟩) 1 1) [sx] rfl (RwAt.one NF.out LX.out) (fun m hm => by rw [List.mem_singleton.1 hm]; exact LO.out) (by have := HTL.out; rw [List.length_singleton]; omega) (by have := HTL.out; rw [List.length_singleton]; unfold maxLen; omega) hHeld.size ?_
      intro xv6 v6 q1 q2
      have OR := Lib.hid q1
      have hv6 := own_grown hHeld (Nat.le_refl _) hHeld.size OS.out.1 q2
      clear q1 q2 hHeld
      go_frame
      refine hK.out _ _ hv6 (fun hHeld => ?_)
      clear hK K hv6
      refine held_take (i := 12) (v := xv6) rfl (by kernel_rfl) (by kernel_rfl) (by kernel_rfl) (fun _ _ _ h => h) (Or.inl ⟨by rfl, fun w' _ => by kernel_rfl⟩) hHeld ?_
      go_frame
      refine wpAnyH_done (by kernel_rfl) ?_ _
      have B6 := Lib.hid hHeld
      have RA6 := Lib.hid (RA.out.below hHeld)
      have BS6 : Hid (base ≤ v6.heap.size) := Nat.le_trans BS.out B6.out.size
      clear hHeld
      have rc := RA6.out.cell
      have RD : Hid (RwAt 68 v6 (sliced sp k n cap 68) ((L.drop k).map spL)) := by
        have h := RA6.out.at.cut k n KN.out (Nat.le_refl _)
        rw [List.take_of_length_le (by rw [List.length_map, ← N.out]; exact Nat.le_refl _), ← List.map_drop] at h
        exact h
      have LN : Hid (((L.take k).map spL ++ [sx]).length + ((L.drop k).map spL).length ≤ 1048577) := by
        show _ ≤ _
        have := N.out
        have := KN.out
        have := NL.out
        rw [List.length_append, List.length_map, List.length_take, List.length_singleton, List.length_map, List.length_drop]
        omega
      have BX6 := Lib.hid (show v6.heap[a]? = some (.cells ([] ++ [Value.slice sp n cap] ++ []).toArray 36 (0, 0)) from RA6.out.box)
      go_upto_region 8 with (first | (at_builtin; refine wpList_append_rw _ rfl (.tmp 33) (.tmp 39) 34 rfl w2.heap.size 45 i0 (.agg (spL ⟨⟨List.replicate 32 0, 0⟩, mnZ⟩).toArray) 68 96 Tryd.underlying34 hi hz0 hz1 hz2 (by kernel_rfl) (by decide) xv6 _ rfl OR.out _ _ (by first | rfl | exact S7.out) RD.out (sps_one _) (by have := LN.out; omega) (by have := LN.out; unfold maxLen; omega) B6.out.size ?_; intro v8 w8 q1 q2; obtain ⟨sp8, n8, cap8, rfl⟩ : ∃ sp n cap, v8 = .slice sp n cap := (let ⟨s, c, e⟩ := (RwOwn.at q1 (by omega)).shape; ⟨s, _, c, e⟩); have O8 := Lib.hid q1; have G8 := Lib.hid q2; have B8 := Lib.hid (own_grown B6.out (Nat.le_refl _) B6.out.size OR.out.1 q2); have BX8 := Lib.hid (row_below (RA.out.below B8.out).box (Below.refl _ _)); clear q1 q2; go_frame) | ((with_reducible show wpList _ _ _ _ _ _); first | (refine wpList_cutS_l rfl 34 (.tmp 37) (.tmp 38) rfl 45 68 Tryd.underlying34 (by kernel_rfl) sp n cap k rfl rfl KN.out ?_; intro s7 q1; have S7 := Lib.hid q1.out; clear q1; go_frame) | (refine wpList_store_part rfl 34 (.tmp 42) (.tmp 40) rfl a 0 [] [Value.slice sp n cap] [] [Value.slice sp8 n8 cap8] 36 (.slice sp8 n8 cap8) rfl rfl rfl rfl rfl BX8.out (by kernel_rfl) (fun u hu => by rw [List.mem_singleton.1 hu]; rfl) ?_; intro w9 q1 q2; have Q1 := Lib.hid q1; have Q2 := Lib.hid q2; clear q1 q2; go_frame)))
      go_wp2_with fail
      go_ret
      refine ⟨rfl, _, L.take k ++ [⟨p, c⟩] ++ L.drop k, ?_, ?_, ⟨Q1.out, ?_⟩, ?_⟩
      · rw [addL_zero' AR.out]
        exact ins_perm _ _
      · exact ins_sorted (x := ⟨p, c⟩) HS.out OK.out ⟨HP.out, HC.out⟩ RK.out GN.out
      · have e : (L.take k ++ [(⟨p, c⟩ : TSp)] ++ L.drop k).map spL = (L.take k).map spL ++ [sx] ++ (L.drop k).map spL := by rw [List.map_append, List.map_append, List.map_singleton, SX.out]
        rw [e]
        exact (O8.out.lower BS.out).kept Q2.out (.inr fun e => by have h1 := (O8.out.1.lt _ e).1; have := AL.out; have := B2.out.size; omega)
      · exact (Kps.new (B2.out.trans (B8.out.mono B2.out.size))).trans (Kps.grown Q2.out fun k _ hk e => hk (Option.some.inj e))
end Go.Proofs.YtlmfchcafhidoaaDoor.Sha

/-
  The statements' own set: a coin is got, or spent; the sum of all values. Getting and summing turn nothing; spending turns its box alone. Conditions: the set lies where the pointer says, in order, at most 2^20 coins; a place as the model has it.
-/
namespace Go.Proofs.YtlmfchcafhidoaaDoor.Sha
open Go Go.RowKit
set_option maxHeartbeats 4000000 in
set_option maxRecDepth 100000 in
theorem rget_any (w : World) (base a : Nat) (v : Value) (L : List TSp) (p : TPt) (h : RefAt w base a v L) (hs : SortedC L) (ho : ∀ x ∈ L, SpOk x) (hp : PtOk p) (hn : L.length ≤ 1048576) :
    Calls Tryd.prog 18 #[.pointer (some ⟨a, 0, none⟩), .agg (ptC p).toArray] w fun e w' => e = .returned (.tuple #[.agg (mnL ((getC L p).getD mnZ)).toArray, .bool (getC L p).isSome]) ∧ Below w.heap.size w w' := by
  have HS := Lib.hid hs
  have OK := Lib.hid ho
  have HP := Lib.hid hp
  have NL := Lib.hid hn
  have PSZ : Hid ((ptC p).toArray.size = 33) := ptC_size hp
  have AL : Hid (a < w.heap.size) := (Array.getElem?_eq_some_iff.1 h.box).1
  have HPL : Hid (∀ W, RefAt W base a v L → Calls Tryd.prog 30 #[.pointer (some ⟨a, 0, none⟩), .agg (ptC p).toArray] W fun e w' => ∃ k : Nat, e = .returned (.tuple #[.int .i64 (k : Int), .bool (getC L p).isSome]) ∧ Rank L p k ∧ Below W.heap.size W w') := fun W hW => rplace_any W base a v L p hW hs ho hp hn
  obtain ⟨cp, hcp⟩ : ∃ cp, cp = ptC p := ⟨_, rfl⟩
  rw [← hcp] at PSZ HPL ⊢
  obtain ⟨sp, cap, rfl⟩ := h.at.shape
  rw [List.length_map] at h HPL
  obtain ⟨n, hnl⟩ : ∃ n, n = L.length := ⟨_, rfl⟩
  rw [← hnl] at h HPL
  have N := Lib.hid hnl
  have RA0 := Lib.hid h
  clear hs ho hp hn h hcp hnl
  go_enter Tryd.func18, Tryd.ntmps18
  go_upto_region 1 with fail
  have f3 := row_below (heap_alloc_new w (.cells cp.toArray 27 (0, 0))) ((Below.refl _ _).alloc (Nat.le_refl _) (.cells (mnL mnZ).toArray 39 (0, 0)))
  have f4 := heap_alloc_new (w.alloc (.cells cp.toArray 27 (0, 0))) (.cells (mnL mnZ).toArray 39 (0, 0))
  have b0 := ((Below.refl w.heap.size w).alloc (Nat.le_refl _) (.cells cp.toArray 27 (0, 0))).alloc (by simp) (.cells (mnL mnZ).toArray 39 (0, 0))
  rw [World.size_alloc] at f4
  generalize hw1 : World.alloc _ _ = w1
  have e1 : (w.alloc (.cells cp.toArray 27 (0, 0))).alloc (.cells (mnL mnZ).toArray 39 (0, 0)) = w1 := hw1
  rw [e1] at f3 f4 b0
  obtain ⟨g3, hg3⟩ : ∃ g3, g3 = w.heap.size := ⟨_, rfl⟩
  have G3 : Hid (w.heap.size ≤ g3) := by show _ ≤ _; rw [hg3]; exact Nat.le_refl _
  rw [← hg3] at f3 f4 ⊢
  have F3 := Lib.hid f3
  have F4 := Lib.hid f4
  have B1 := Lib.hid b0
  have RA1 := Lib.hid (RA0.out.below b0)
  clear f3 f4 b0 hw1 e1 hg3 RA0
  go_wp2_with ((with_reducible show wpList _ _ _ _ _ _); (refine wpList_load_row rfl 27 (.tmp 3) rfl g3 rfl 27 cp.toArray (0, 0) _ F3.out Tryd.underlying27 rfl (by rw [PSZ.out]; kernel_rfl) ?_; go_frame))
  refine (HPL.out w1 RA1.out).mono ?_
  rintro e w2 ⟨k, rfl, rk, b2⟩
  have RK := Lib.hid rk
  have RA := Lib.hid (RA1.out.below b2)
  have B2 := Lib.hid (B1.out.trans (b2.mono B1.out.size))
  have F4 := Lib.hid (row_below F4.out b2)
  clear rk b2 RA1
  obtain ⟨q, hq⟩ : ∃ q, q = (getC L p).isSome := ⟨_, rfl⟩
  rw [← hq]
  cases q with
  | false =>
    have GN : Hid (getC L p = none) := getC_opt hq.symm
    clear hq
    go_wp2_with ((with_reducible show wpList _ _ _ _ _ _); first | (refine wpList_buildTo rfl 39 _ rfl _ rfl (mnL mnZ).toArray (by kernel_rfl) ?_; go_frame) | (refine wpList_store_row rfl 39 (.tmp 4) (.tmp 16) rfl (g3 + 1) (mnL mnZ).toArray rfl rfl 39 _ F4.out (by kernel_rfl) rfl (mnL_all _) ?_; go_frame))
    refine bodyPost_ret (results_row_tmp rfl _ _ (g3 + 1) 39 (mnL mnZ).toArray (0, 0) _ rfl (setRow_heap _ _ _ _ _ _ F4.out) Tryd.underlying39 rfl (by kernel_rfl)) rfl ?_
    exact ⟨by rw [GN.out]; rfl, below_setRow B2.out (by have := G3.out; omega) _⟩
  | true =>
    obtain ⟨x, hx, hxp, hgx⟩ := rank_get HS.out RK.out hq.symm
    obtain ⟨b, o, rfl, hg⟩ := RA.out.at.get (by have := (List.getElem?_eq_some_iff.1 hx).1; have := N.out; omega)
    have ox := OK.out x (List.mem_of_getElem? hx)
    have GX := Lib.hid hgx
    have XP := Lib.hid hxp
    have XI := Lib.hid hx
    have RX : Hid (w2.rangeAt b (o + k * 68 + 33) (mnL x.coin)) := sp_mn ox (hg k (spL x) (by rw [List.getElem?_map, hx]; rfl))
    have LM : Hid ((mnL x.coin).length = 35) := mnL_length ox.2
    have CZ : Hid ((mnL x.coin).toArray.size = 35) := mnL_size ox.2
    have KL : Hid (k < n) := by show _ < _; rw [N.out]; exact (List.getElem?_eq_some_iff.1 hx).1
    have MO : Hid ((mnL x.coin).toArray.all (·.oneCell') = true) := mnL_all _
    obtain ⟨cm, hcm⟩ : ∃ cm, cm = mnL x.coin := ⟨_, rfl⟩
    rw [← hcm] at RX LM CZ MO
    have CM := Lib.hid hcm
    have p0 : 0 ≤ (k : Int) := by omega
    have q0 : (k : Int) < (n : Int) := by have := KL.out; omega
    have rc := RA.out.cell
    clear hx hxp hgx ox hg hcm hq
    go_wp2_with ((with_reducible show wpList _ _ _ _ _ _); first | (refine wpList_load_mid rfl 39 (.tmp 23) rfl b (o + k * 68 + 33) rfl cm _ RX.out Tryd.underlying39 rfl (by rw [LM.out]; kernel_rfl) ?_; go_frame) | (refine wpList_store_row rfl 39 (.tmp 4) (.tmp 24) rfl (g3 + 1) cm.toArray rfl rfl 39 _ F4.out (by rw [CZ.out]; kernel_rfl) (by rw [CZ.out]; rfl) MO.out ?_; go_frame))
    refine bodyPost_ret (results_row_tmp rfl _ _ (g3 + 1) 39 cm.toArray (0, 0) _ rfl (setRow_heap _ _ _ _ _ _ F4.out) Tryd.underlying39 rfl (by rw [CZ.out]; kernel_rfl)) rfl ?_
    exact ⟨by rw [GX.out, CM.out]; rfl, below_setRow B2.out (by have := G3.out; omega) _⟩
/-- What Spend answers and leaves. -/
def RspP (L : List TSp) (p : TPt) (base a : Nat) (w : World) (e : Ending) (w' : World) : Prop := e = .returned (.tuple #[.agg (mnL ((getC L p).getD mnZ)).toArray, .int .i64 (numE (if (getC L p).isSome then 0 else 13))]) ∧ ∃ v', RefAt w' base a v' (delC L p) ∧ Kps (fun j => j ≠ a) w w'
set_option maxHeartbeats 4000000 in
set_option maxRecDepth 100000 in
theorem rspend_p (w : World) (base a : Nat) (v : Value) (L : List TSp) (p : TPt) (h : RefAt w base a v L) (hs : SortedC L) (ho : ∀ x ∈ L, SpOk x) (hp : PtOk p) (hn : L.length ≤ 1048576) (hbase : base ≤ w.heap.size) :
    Calls Tryd.prog 15 #[.pointer (some ⟨a, 0, none⟩), .agg (ptC p).toArray] w (RspP L p base a w) := by
  obtain ⟨i0, hi, hz0, hz1, hz2⟩ := info_parts info_spent
  have BS0 := Lib.hid hbase
  clear hbase
  have HS := Lib.hid hs
  have OK := Lib.hid ho
  have HP := Lib.hid hp
  have NL := Lib.hid hn
  have PSZ : Hid ((ptC p).toArray.size = 33) := ptC_size hp
  have AL : Hid (a < w.heap.size) := (Array.getElem?_eq_some_iff.1 h.box).1
  have HPL : Hid (∀ W, RefAt W base a v L → Calls Tryd.prog 30 #[.pointer (some ⟨a, 0, none⟩), .agg (ptC p).toArray] W fun e w' => ∃ k : Nat, e = .returned (.tuple #[.int .i64 (k : Int), .bool (getC L p).isSome]) ∧ Rank L p k ∧ Below W.heap.size W w') := fun W hW => rplace_any W base a v L p hW hs ho hp hn
  obtain ⟨cp, hcp⟩ : ∃ cp, cp = ptC p := ⟨_, rfl⟩
  rw [← hcp] at PSZ HPL ⊢
  obtain ⟨sp, cap, rfl⟩ := h.at.shape
  rw [List.length_map] at h HPL
  obtain ⟨n, hnl⟩ : ∃ n, n = L.length := ⟨_, rfl⟩
  rw [← hnl] at h HPL
  have N := Lib.hid hnl
  have RA0 := Lib.hid h
  clear hs ho hp hn h hcp hnl
  go_enter Tryd.func15, Tryd.ntmps15
  go_upto_region 1 with fail
  have f3 := row_below (heap_alloc_new w (.cells cp.toArray 27 (0, 0))) ((Below.refl _ _).alloc (Nat.le_refl _) (.cells (mnL mnZ).toArray 39 (0, 0)))
  have f4 := heap_alloc_new (w.alloc (.cells cp.toArray 27 (0, 0))) (.cells (mnL mnZ).toArray 39 (0, 0))
  have b0 := ((Below.refl w.heap.size w).alloc (Nat.le_refl _) (.cells cp.toArray 27 (0, 0))).alloc (by simp) (.cells (mnL mnZ).toArray 39 (0, 0))
  rw [World.size_alloc] at f4
  generalize hw1 : World.alloc _ _ = w1
  have e1 : (w.alloc (.cells cp.toArray 27 (0, 0))).alloc (.cells (mnL mnZ).toArray 39 (0, 0)) = w1 := hw1
  rw [e1] at f3 f4 b0
  obtain ⟨g3, hg3⟩ : ∃ g3, g3 = w.heap.size := ⟨_, rfl⟩
  have G3 : Hid (w.heap.size ≤ g3) := by show _ ≤ _; rw [hg3]; exact Nat.le_refl _
  rw [← hg3] at f3 f4 ⊢
  have F3 := Lib.hid f3
  have F4 := Lib.hid f4
  have B1 := Lib.hid b0
  have RA1 := Lib.hid (RA0.out.below b0)
  clear f3 f4 b0 hw1 e1 hg3 RA0
  go_wp2_with ((with_reducible show wpList _ _ _ _ _ _); (refine wpList_load_row rfl 27 (.tmp 3) rfl g3 rfl 27 cp.toArray (0, 0) _ F3.out Tryd.underlying27 rfl (by rw [PSZ.out]; kernel_rfl) ?_; go_frame))
  refine (HPL.out w1 RA1.out).mono ?_
  rintro e w2 ⟨k, rfl, rk, b2⟩
  have RK := Lib.hid rk
  have RA := Lib.hid (RA1.out.below b2)
  have B2 := Lib.hid (B1.out.trans (b2.mono B1.out.size))
  have F4 := Lib.hid (row_below F4.out b2)
  clear rk b2 RA1
  obtain ⟨q, hq⟩ : ∃ q, q = (getC L p).isSome := ⟨_, rfl⟩
  rw [← hq]
  cases q with
  | false =>
    have GN : Hid (getC L p = none) := getC_opt hq.symm
    clear hq
    go_wp2_with ((with_reducible show wpList _ _ _ _ _ _); first | (refine wpList_buildTo rfl 39 _ rfl _ rfl (mnL mnZ).toArray (by kernel_rfl) ?_; go_frame) | (refine wpList_store_row rfl 39 (.tmp 4) (.tmp 18) rfl (g3 + 1) (mnL mnZ).toArray rfl rfl 39 _ F4.out (by kernel_rfl) rfl (mnL_all _) ?_; go_frame))
    refine bodyPost_ret (results_row_tmp rfl _ _ (g3 + 1) 39 (mnL mnZ).toArray (0, 0) _ rfl (setRow_heap _ _ _ _ _ _ F4.out) Tryd.underlying39 rfl (by kernel_rfl)) rfl ?_
    unfold RspP
    refine ⟨by rw [GN.out]; rfl, .slice sp n cap, ?_, ?_⟩
    · rw [delC_none GN.out]
      exact RA.out.kps (F := fun j => j ≠ g3 + 1) (Kps.grown (setRow_grown _) fun k _ hk e => hk (Option.some.inj e)) (by have := AL.out; have := G3.out; show a ≠ g3 + 1; omega) (fun q e => by
        intro e2
        rcases RA.out.row.1.2 with ⟨hv, _⟩ | ⟨g, cap', cur, hv, _, hc, _⟩
        · rw [hv] at e; cases e
        · rw [hv] at e
          cases e
          replace e2 : g = g3 + 1 := e2
          rw [e2, F4.out] at hc
          cases hc)
    · exact Kps.new (below_setRow B2.out (by have := G3.out; omega) _)
  | true =>
    obtain ⟨x, hx, hxp, hgx⟩ := rank_get HS.out RK.out hq.symm
    obtain ⟨b, o, rfl, hg⟩ := RA.out.at.get (by have := (List.getElem?_eq_some_iff.1 hx).1; have := N.out; omega)
    have ox := OK.out x (List.mem_of_getElem? hx)
    have GX := Lib.hid hgx
    have XP := Lib.hid hxp
    have XI := Lib.hid hx
    have RX : Hid (w2.rangeAt b (o + k * 68 + 33) (mnL x.coin)) := sp_mn ox (hg k (spL x) (by rw [List.getElem?_map, hx]; rfl))
    have LM : Hid ((mnL x.coin).length = 35) := mnL_length ox.2
    have CZ : Hid ((mnL x.coin).toArray.size = 35) := mnL_size ox.2
    have KL : Hid (k < n) := by show _ < _; rw [N.out]; exact (List.getElem?_eq_some_iff.1 hx).1
    have MO : Hid ((mnL x.coin).toArray.all (·.oneCell') = true) := mnL_all _
    obtain ⟨cm, hcm⟩ : ∃ cm, cm = mnL x.coin := ⟨_, rfl⟩
    rw [← hcm] at RX LM CZ MO
    have CM := Lib.hid hcm
    have p0 : 0 ≤ (k : Int) := by omega
    have q0 : (k : Int) < (n : Int) := by have := KL.out; omega
    have rc := RA.out.cell
    clear hx hxp hgx ox hg hcm hq
    have BS : Hid (base ≤ w2.heap.size) := Nat.le_trans BS0.out B2.out.size
    go_upto_region 5 with ((with_reducible show wpList _ _ _ _ _ _); first | (refine wpList_load_mid rfl 39 (.tmp 25) rfl b (o + k * 68 + 33) rfl cm _ RX.out Tryd.underlying39 rfl (by rw [LM.out]; kernel_rfl) ?_; go_frame) | (refine wpList_store_row rfl 39 (.tmp 8) (.tmp 26) rfl w2.heap.size cm.toArray rfl rfl 39 _ (heap_alloc_new _ _) (by rw [CZ.out]; kernel_rfl) (by rw [CZ.out]; rfl) MO.out ?_; go_frame))
    obtain ⟨_, f2, f3, f4⟩ := fill_setup (Below.refl w2.heap.size w2) (mnL mnZ).toArray cm.toArray 39
    generalize hw5 : World.setRow _ _ _ = w5
    have e5 : World.setRow (w2.alloc (.cells (mnL mnZ).toArray 39)) w2.heap.size cm.toArray = w5 := hw5
    rw [e5] at f2 f3 f4
    obtain ⟨g8, hg8⟩ : ∃ g8, g8 = w2.heap.size := ⟨_, rfl⟩
    have SW8 : Hid (w.heap.size ≤ g8) := by show _ ≤ _; rw [hg8]; exact B2.out.size
    rw [← hg8] at f2 ⊢
    have F8 := Lib.hid f2
    have F4 := Lib.hid (row_below F4.out f4)
    have RA5 := Lib.hid (RA.out.below f4)
    have B5 := Lib.hid (B2.out.trans (f4.mono B2.out.size))
    have BS5 : Hid (base ≤ w5.heap.size) := Nat.le_trans BS.out f4.size
    clear f2 f3 f4 hw5 e5 hg8 rc RA RX
    have rc := RA5.out.cell
    have KC : Hid (k ≤ cap) := Nat.le_trans (Nat.le_of_lt KL.out) RA5.out.at.len.2
    have SZ8 : Hid (g8 < w5.heap.size) := (Array.getElem?_eq_some_iff.1 F8.out).1
    have SZ4 : Hid (g3 + 1 < w5.heap.size) := (Array.getElem?_eq_some_iff.1 F4.out).1
    have RT : Hid (RwAt 68 w5 (sliced (some ⟨b, o, none⟩) 0 k cap 68) ((L.take k).map spL)) := by
      have h := RA5.out.at.cut 0 k (Nat.zero_le _) (Nat.le_of_lt KL.out)
      rw [List.drop_zero, ← List.map_take] at h
      exact h
    go_wp2_with ((with_reducible show wpList _ _ _ _ _ _); refine wpList_cutS_h rfl 34 (.tmp 30) (.tmp 31) rfl 45 68 Tryd.underlying34 (by kernel_rfl) (some ⟨b, o, none⟩) n cap k rfl rfl KC.out ?_; intro s5 q1; have S5 := Lib.hid q1.out; clear q1; go_frame)
    refine (rspents_any (L.take k) _ w5 (by rw [S5.out]; exact RT.out) (fun x hx => OK.out x (List.mem_of_mem_take hx)) (by rw [List.length_take]; have := NL.out; omega)).mono ?_
    rintro e w6 ⟨vs, rfl, os, b6⟩
    have OS := Lib.hid os
    have F8 := Lib.hid (row_below F8.out b6)
    have F4 := Lib.hid (row_below F4.out b6)
    have RA6 := Lib.hid (RA5.out.below b6)
    have B6 := Lib.hid b6
    have W56 : Hid (w5.heap.size ≤ w6.heap.size) := b6.size
    clear os b6 rc RA5 RT
    have rc := RA6.out.cell
    have k1 : ((k : Int) + 1) = ((k + 1 : Nat) : Int) := by omega
    have KN1 : Hid (k + 1 ≤ n) := KL.out
    have RD : Hid (RwAt 68 w6 (sliced (some ⟨b, o, none⟩) (k + 1) n cap 68) ((L.drop (k + 1)).map spL)) := by
      have h := RA6.out.at.cut (k + 1) n KN1.out (Nat.le_refl _)
      rw [List.take_of_length_le (by rw [List.length_map, ← N.out]; exact Nat.le_refl _), ← List.map_drop] at h
      exact h
    have LN : Hid (((L.take k).map spL).length + ((L.drop (k + 1)).map spL).length ≤ 1048577) := by
      show _ ≤ _
      have := N.out
      have := NL.out
      rw [List.length_map, List.length_take, List.length_map, List.length_drop]
      omega
    have K1 : Hid (Value.int .i64 ((k : Int) + 1) = .int .i64 ((k + 1 : Nat) : Int)) := congrArg (Value.int .i64) (by omega)
    have nb : (n : Int) ≤ 1048576 := by have := N.out; have := NL.out; omega
    clear k1
    go_upto_region 7 with (first | (at_builtin; refine wpList_append_rw _ rfl (.tmp 35) (.tmp 42) 34 rfl w5.heap.size 45 i0 (.agg (spL ⟨⟨List.replicate 32 0, 0⟩, mnZ⟩).toArray) 68 96 Tryd.underlying34 hi hz0 hz1 hz2 (by kernel_rfl) (by decide) vs _ rfl OS.out _ _ (by first | rfl | exact S7.out) RD.out (sps_one _) (by have := LN.out; omega) (by have := LN.out; unfold maxLen; omega) W56.out ?_; intro v8 w8 q1 q2; obtain ⟨sp8, n8, cap8, rfl⟩ : ∃ sp n cap, v8 = .slice sp n cap := (let ⟨s, c, e⟩ := (RwOwn.at q1 (by omega)).shape; ⟨s, _, c, e⟩); have O8 := Lib.hid q1; have G8 := Lib.hid q2; have B8 := Lib.hid (own_grown B6.out (Nat.le_refl _) B6.out.size OS.out.1 q2); have F88 : Hid (w8.heap[g8]? = _) := row_far F8.out q2 (fun e => by have h1 := (OS.out.1.lt _ e).1; have := SZ8.out; omega); have F48 : Hid (w8.heap[g3 + 1]? = _) := row_far F4.out q2 (fun e => by have h1 := (OS.out.1.lt _ e).1; have := SZ4.out; omega); have BX8 : Hid (w8.heap[a]? = _) := row_far RA6.out.box q2 (fun e => by have h1 := (OS.out.1.lt _ e).1; have := AL.out; have := B5.out.size; omega); clear q1 q2; go_frame) | ((with_reducible show wpList _ _ _ _ _ _); first | (refine wpList_cutS_l rfl 34 (.tmp 39) (.tmp 41) rfl 45 68 Tryd.underlying34 (by kernel_rfl) (some ⟨b, o, none⟩) n cap (k + 1) rfl (by first | rfl | exact K1.out) KN1.out ?_; intro s7 q1; have S7 := Lib.hid q1.out; clear q1; go_frame) | (refine wpList_store_part rfl 34 (.tmp 45) (.tmp 43) rfl a 0 [] [Value.slice (some ⟨b, o, none⟩) n cap] [] [Value.slice sp8 n8 cap8] 36 (.slice sp8 n8 cap8) rfl rfl rfl rfl rfl BX8.out (by kernel_rfl) (fun u hu => by rw [List.mem_singleton.1 hu]; rfl) ?_; intro w9 q1 q2; have Q1 := Lib.hid q1; have Q2 := Lib.hid q2; clear q1 q2; go_frame)))
    have F8 := Lib.hid (row_far F88.out Q2.out (fun e => by have := Option.some.inj e; have := AL.out; have := SW8.out; omega))
    have F4 := Lib.hid (row_far F48.out Q2.out (fun e => by have := Option.some.inj e; have := AL.out; have := G3.out; omega))
    go_wp2_with ((with_reducible show wpList _ _ _ _ _ _); first | (refine wpList_load_row rfl 39 (.tmp 8) rfl g8 rfl 39 cm.toArray (0, 0) _ F8.out Tryd.underlying39 rfl (by rw [CZ.out]; kernel_rfl) ?_; go_frame) | (refine wpList_store_row rfl 39 (.tmp 4) (.tmp 46) rfl (g3 + 1) cm.toArray rfl rfl 39 _ F4.out (by rw [CZ.out]; kernel_rfl) (by rw [CZ.out]; rfl) MO.out ?_; go_frame))
    refine bodyPost_ret (results_row_tmp rfl _ _ (g3 + 1) 39 cm.toArray (0, 0) _ rfl (setRow_heap _ _ _ _ _ _ F4.out) Tryd.underlying39 rfl (by rw [CZ.out]; kernel_rfl)) rfl ?_
    have KP : Kps (fun j => j ≠ a) w w9 := (Kps.new (B5.out.trans (B8.out.mono B5.out.size))).trans (Kps.grown Q2.out fun k _ hk e => hk (Option.some.inj e))
    unfold RspP
    refine ⟨by rw [GX.out, CM.out]; rfl, _, ⟨row_far Q1.out (setRow_grown _) (fun e => by have := Option.some.inj e; have := AL.out; have := G3.out; omega), ?_⟩, KP.far (setRow_grown _) (by have := G3.out; omega)⟩
    rw [← del_eq HS.out XI.out XP.out, List.map_append]
    have o9 := (O8.out.lower BS5.out).kept Q2.out (.inr fun e => by have h1 := (O8.out.1.lt _ e).1; have := AL.out; have := B5.out.size; omega)
    refine o9.kept (setRow_grown _) (.inr fun e => ?_)
    have h1 := (O8.out.1.lt _ e).1
    have := SZ4.out
    omega
theorem rspend_any (w : World) (base a : Nat) (v : Value) (L : List TSp) (p : TPt) (h : RefAt w base a v L) (hs : SortedC L) (ho : ∀ x ∈ L, SpOk x) (hp : PtOk p) (hn : L.length ≤ 1048576) (hbase : base ≤ w.heap.size) :
    Calls Tryd.prog 15 #[.pointer (some ⟨a, 0, none⟩), .agg (ptC p).toArray] w fun e w' => e = .returned (.tuple #[.agg (mnL ((getC L p).getD mnZ)).toArray, .int .i64 (numE (if (getC L p).isSome then 0 else 13))]) ∧ ∃ v', RefAt w' base a v' (delC L p) ∧ Kps (fun j => j ≠ a) w w' :=
  (rspend_p w base a v L p h hs ho hp hn hbase).mono fun _ _ h => h
theorem worthC_take {l : List TSp} {k : Nat} {x : TSp} (h : l[k]? = some x) : worthC (l.take (k + 1)) = worthC (l.take k) + x.coin.val := by
  have hk := (List.getElem?_eq_some_iff.1 h).1
  rw [List.take_succ_eq_append_getElem hk, (List.getElem?_eq_some_iff.1 h).2, worthC_snoc]
def RtInv (L : List TSp) (w : World) (vt vi : Value) (wr : World) : Prop := ∃ k t : Nat, k ≤ L.length ∧ vi = .int .i64 (k : Int) ∧ vt = .int .u64 (t : Int) ∧ t = worthC (L.take k) % 18446744073709551616 ∧ Below w.heap.size w wr
set_option maxHeartbeats 2000000 in
set_option maxRecDepth 100000 in
theorem rtotal_any (w : World) (base a : Nat) (v : Value) (L : List TSp) (h : RefAt w base a v L) (ho : ∀ x ∈ L, SpOk x) (hn : L.length ≤ 1048576) (t : Nat) (ht : t = worthC L % 18446744073709551616) :
    Calls Tryd.prog 20 #[.pointer (some ⟨a, 0, none⟩)] w fun e w' => e = .returned (.int .u64 (t : Int)) ∧ Below w.heap.size w w' := by
  have OK := Lib.hid ho
  have NL := Lib.hid hn
  have HT := Lib.hid ht
  obtain ⟨sp, cap, rfl⟩ := h.at.shape
  rw [List.length_map] at h
  obtain ⟨n, hnl⟩ : ∃ n, n = L.length := ⟨_, rfl⟩
  rw [← hnl] at h
  have N := Lib.hid hnl
  have RA0 := Lib.hid h
  clear ho hn h hnl ht
  go_enter Tryd.func20, Tryd.ntmps20
  go_wp2_with fail
  go_loopw [3, 4] (fun vt vi wr => RtInv L w vt vi wr) (fun _ vi _ => n - (intOf vi).toNat)
  case atStart => exact ⟨0, 0, Nat.zero_le _, rfl, rfl, rfl, Below.refl _ _⟩
  case round =>
    obtain ⟨k, u, hk, rfl, rfl, hu, hb⟩ := hrel
    have BB := Lib.hid hb
    have HU := Lib.hid hu
    have RA := Lib.hid (RA0.out.below hb)
    have ub : 0 ≤ (u : Int) ∧ (u : Int) ≤ 18446744073709551615 := by omega
    rw [← N.out] at hk
    clear hb hu
    have rc := RA.out.cell
    by_cases hlt : k < n
    · obtain ⟨b, o, rfl, hg⟩ := RA.out.at.get (by omega)
      have hkl : k < L.length := by rw [← N.out]; exact hlt
      obtain ⟨x, hx⟩ : ∃ x, L[k]? = some x := ⟨_, List.getElem?_eq_getElem hkl⟩
      have ox := OK.out x (List.mem_of_getElem? hx)
      obtain ⟨vx, hvx⟩ : ∃ vx, vx = x.coin.val := ⟨_, rfl⟩
      have VX := Lib.hid hvx
      have cx : wr.cell? ⟨b, o + k * 68 + 33, none⟩ = some (.int .u64 (vx : Int)) := by
        rw [hvx]
        exact mn_val (sp_mn ox (hg k (spL x) (by rw [List.getElem?_map, hx]; rfl)))
      have TK := Lib.hid (worthC_take hx)
      have vxb : (vx : Int) ≤ 18446744073709551615 := by have := ox.2.2.1; omega
      have p0 : 0 ≤ (k : Int) := by omega
      have q0 : (k : Int) < (n : Int) := by omega
      have nb : n ≤ 1048576 := by rw [N.out]; exact NL.out
      clear hg hx ox hkl hvx
      go_wp2_with fail
      go_roundw
      case rel =>
        refine ⟨k + 1, (u + vx) % 18446744073709551616, by rw [← N.out]; omega, by go_num, ?_, ?_, BB.out⟩
        · first | rfl | (congr 1; rw [IntKind.wrap_u64]; omega)
        · rw [TK.out, HU.out, ← VX.out]
          omega
      case measure => simp [intOf]; omega
    · have hge : ¬ (k : Int) < (n : Int) := by omega
      have e : u = t := by
        rw [HU.out, HT.out, List.take_of_length_le (by rw [← N.out]; omega)]
      subst e
      go_wp2_with fail
      go_ret
      exact ⟨rfl, BB.out⟩
end Go.Proofs.YtlmfchcafhidoaaDoor.Sha

/-
  Small functions of the statements' own SHA-256: a word turned right, the table of the rounds' words, as the chapter gives them. No conditions.
-/
namespace Go.Proofs.YtlmfchcafhidoaaDoor.Sha
open Go Go.RowKit
theorem right_fact (x : UInt32) (n : Nat) (h1 : 1 ≤ n) (h2 : n ≤ 31) : bits .or .u32 (wv x / 2 ^ n) (wv x * 2 ^ (32 - n) % 4294967296) = wv (rotr x n) := by
  rw [← IntKind.wrap_u32', wv_shl x _ (by omega), wv_shr x n (by omega), wv_or]
  rfl
set_option maxRecDepth 100000 in
theorem right_any (x : UInt32) (n : Nat) (k : Int) (hk : k = (n : Int)) (h1 : 1 ≤ n) (h2 : n ≤ 31) (w : World) :
    Calls Tryd.prog 59 #[.int .u32 (wv x), .int .u64 k] w fun e w' => e = .returned (.int .u32 (wv (rotr x n))) ∧ w = w' := by
  subst hk
  go_enter Tryd.func59, Tryd.ntmps59
  go_wp2
  go_ret
  exact ⟨ret_int (right_fact x n h1 h2), rfl⟩
theorem right_z (x : UInt32) (k : Int) (h1 : 1 ≤ k) (h2 : k ≤ 31) (w : World) :
    Calls Tryd.prog 59 #[.int .u32 (wv x), .int .u64 k] w fun e w' => e = .returned (.int .u32 (wv (rotr x k.toNat))) ∧ w = w' :=
  right_any x k.toNat k (by omega) (by omega) (by omega) w
theorem wv_sum3 (a b c : UInt32) : (wv a + wv b + wv c) % 4294967296 = wv (a + b + c) := by rw [← wv_sum, ← wv_sum]; omega
theorem wv_sum4 (a b c d : UInt32) : (wv a + wv b + wv c + wv d) % 4294967296 = wv (a + b + c + d) := by rw [← wv_sum, ← wv_sum3]; omega
theorem wv_not (x : UInt32) : bits .xor .u32 IntKind.u32.max (wv x) = wv (~~~x) := by
  rw [show IntKind.u32.max = wv 4294967295 from rfl, wv_xor, show (4294967295 : UInt32) = -1 from rfl, UInt32.neg_one_xor]
set_option maxRecDepth 100000 in
theorem k_any (w : World) : Calls Tryd.prog 58 #[] w fun e w' => e = .returned (.slice (some ⟨w.heap.size, 0, none⟩) 64 64) ∧ w'.heap[w.heap.size]? = some (.cells (kList.map wV).toArray 25 (0, 0)) ∧ Below w.heap.size w w' := by
  go_enter Tryd.func58, Tryd.ntmps58
  go_wp2
  go_ret
  exact ⟨rfl, by rw [heap_alloc_new]; rfl, (Below.refl _ _).alloc (Nat.le_refl _) _⟩
end Go.Proofs.YtlmfchcafhidoaaDoor.Sha
