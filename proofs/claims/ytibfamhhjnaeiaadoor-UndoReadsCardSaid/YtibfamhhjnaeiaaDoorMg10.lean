/-
  Texts of this proof joined into one file: UdWay2, TxC, TxBaseW, UdMath2, TxC2, BytesEq, RefSmall. What each holds, and under which conditions, its own first sentence tells.
-/
import Derived.Lib.BufferRead
import Derived.Test.YtibfamhhjnaeiaaDoorMg09
import Derived.Test.YtibfamhhjnaeiaaDoorMg03
import Derived.Test.YtibfamhhjnaeiaaDoorMg05
import Derived.Test.YtibfamhhjnaeiaaDoorMg08
import Derived.Test.YtibfamhhjnaeiaaDoorMg01
/-
  A coin is added on the way of package undo. The set, the way and new memory turn, no more. Conditions: the set and the way lie where the pointers say; places, coins as the model has them; the errors are there.
-/
namespace Go.Proofs.YtibfamhhjnaeiaaDoor.Sha
open Go Go.RowKit
set_option maxHeartbeats 2000000 in
set_option maxRecDepth 100000 in
theorem wyadd_any (E : Nat → Addr) (w0 w : World) (a gw : Nat) (m0 m : Option Nat) (l : List TSp) (vb : Value) (st : List (TSp × Bool)) (p : TPt) (c : TMn) (hE : ECw E w0 a m0) (hs : WyG w0 a m0 gw w m l vb vb st) (hp : PtOk p) (hc : MnOk c) (hn : st.length ≤ 1048576) :
    Calls Tryd.prog 47 #[(.pointer (some ⟨gw, 0, none⟩)), .agg (ptC p).toArray, .agg (mnL c).toArray] w (WyA E w0 a m0 gw w m l vb p c st) := by
  obtain ⟨i1, hi1, hy0, hy1, hy2⟩ := info_parts info_step
  have ST := Lib.hid hs
  have HE := Lib.hid hE
  have HP := Lib.hid hp
  have COK := Lib.hid hc
  have PSZ : Hid ((ptC p).toArray.size = 33) := ptC_size hp
  have CS : Hid (∀ W, SetAt W a m l → EC W E → Calls Tryd.prog 49 #[(.pointer (some ⟨a, 0, none⟩)), .agg (ptC p).toArray, .agg (mnL c).toArray] W fun e w' => e = .returned (errV E (addR l p c)) ∧ ∃ m', SetAt w' a m' (addL l p c) ∧ (m' = m ∨ ∃ b, m' = some b ∧ W.heap.size ≤ b) ∧ Kps (fun j => j ≠ a ∧ m ≠ some j) W w') := fun W h1 h2 => setadd_any E W a m l p c h2 h1 hp hc
  have DL : Hid ((st.map stepL).length ≤ 1048576) := by show _ ≤ _; rw [List.length_map]; exact hn
  unfold WyA
  obtain ⟨r, hr⟩ : ∃ r, r = addR l p c := ⟨_, rfl⟩
  rw [← hr] at CS
  rw [← hr]
  have RE := Lib.hid hr
  have CLN : Hid ((mnL c).length = 35) := mnL_length hc
  have CSZ : Hid ((mnL c).toArray.size = 35) := mnL_size hc
  obtain ⟨cm, hcm⟩ : ∃ cm, cm = mnL c := ⟨_, rfl⟩
  obtain ⟨cp, hcp⟩ : ∃ cp, cp = ptC p := ⟨_, rfl⟩
  rw [← hcm, ← hcp] at CS
  rw [← hcm] at CLN CSZ
  rw [← hcp] at PSZ
  rw [← hcm, ← hcp]
  have CME := Lib.hid hcm
  have CPE := Lib.hid hcp
  clear hs hE hp hn hc hr hcm hcp
  go_enter Tryd.func47, Tryd.ntmps47
  go_upto_region 1 with fail
  have f4 := row_below (heap_alloc_new w (.cells cp.toArray 28 (0, 0))) ((Below.refl _ _).alloc (Nat.le_refl _) (.cells cm.toArray 31 (0, 0)))
  have f5 := heap_alloc_new (w.alloc (.cells cp.toArray 28 (0, 0))) (.cells cm.toArray 31 (0, 0))
  have b0 := ((Below.refl w.heap.size w).alloc (Nat.le_refl _) (.cells cp.toArray 28 (0, 0))).alloc (by simp) (.cells cm.toArray 31 (0, 0))
  rw [World.size_alloc] at f5
  generalize hw1 : World.alloc _ _ = w1
  have e1 : (w.alloc (.cells cp.toArray 28 (0, 0))).alloc (.cells cm.toArray 31 (0, 0)) = w1 := hw1
  rw [e1] at f4 f5 b0
  obtain ⟨g4, hg4⟩ : ∃ g4, g4 = w.heap.size := ⟨_, rfl⟩
  obtain ⟨g5, hg5⟩ : ∃ g5, g5 = w.heap.size + 1 := ⟨_, rfl⟩
  rw [← hg4] at f4
  rw [← hg5] at f5
  have F4 := Lib.hid f4
  have F5 := Lib.hid f5
  have KF : Hid (Kps (FF a m gw vb) w w1) := Kps.new b0
  have ST := Lib.hid (ST.out.below b0)
  rw [← hg5, ← hg4]
  clear f4 f5 b0 hw1 e1 hg4 hg5
  refine wp_region_held_drew (S := (fun w' => w'.cell? ⟨gw, 0, none⟩ = some (.pointer (some ⟨a, 0, none⟩)) ∧ w'.heap[g4]? = some (.cells cp.toArray 28 (0, 0)) ∧ w'.heap[g5]? = some (.cells cm.toArray 31 (0, 0)))) (by kernel_rfl) (⟨(ST.out.below (Below.drew (Below.refl _ _))).ptr, row_below F4.out (Below.drew (Below.refl _ _)), row_below F5.out (Below.drew (Below.refl _ _))⟩) (fun hHeld => ?_)
  have ST := Lib.hid (ST.out.below (Below.drew (Below.refl _ _)))
  have KF := Lib.hid (KF.out.trans (Kps.new (Below.drew (Below.refl _ _))))
  generalize hwd : w1.drew = wd at ST KF hHeld ⊢
  clear hwd
  refine held_take (i := 0) (v := (.pointer (some ⟨gw, 0, none⟩))) rfl (by kernel_rfl) (by kernel_rfl) (by kernel_rfl) (fun _ _ _ h => h) (Or.inl ⟨by rfl, fun w' _ => by kernel_rfl⟩) hHeld ?_
  go_frame
  refine held_take (i := 1) (v := (.pointer (some ⟨gw, 0, none⟩))) rfl (by kernel_rfl) (by kernel_rfl) (by kernel_rfl) (fun _ _ _ h => h) (Or.inl ⟨by rfl, fun w' _ => by kernel_rfl⟩) hHeld ?_
  go_frame
  refine held_take (i := 2) (v := (.pointer (some ⟨gw, 0, none⟩))) rfl (by kernel_rfl) (by kernel_rfl) (by kernel_rfl) (fun _ _ _ h => h) (Or.inl ⟨by rfl, fun w' _ => by kernel_rfl⟩) hHeld ?_
  go_frame
  refine held_take (i := 3) (v := (.pointer (some ⟨a, 0, none⟩))) rfl (by kernel_rfl) (by kernel_rfl) (by kernel_rfl) (fun _ _ _ h => h) (yieldsIf_load_one (by rfl) 49 (.tmp 10) rfl gw (0) rfl _ _ (fun w' hw' => hw'.1) Tryd.underlying49 rfl) hHeld ?_
  go_frame
  refine held_take (i := 4) (v := (.agg cp.toArray)) rfl (by kernel_rfl) (by kernel_rfl) (by kernel_rfl) (fun _ _ _ h => h) (yieldsIf_load_row (by rfl) 28 (.tmp 4) rfl g4 rfl 28 cp.toArray (0, 0) _ (fun w' hw' => hw'.2.1) Tryd.underlying28 rfl (by rw [PSZ.out]; kernel_rfl)) hHeld ?_
  go_frame
  refine held_take (i := 5) (v := (.agg cm.toArray)) rfl (by kernel_rfl) (by kernel_rfl) (by kernel_rfl) (fun _ _ _ h => h) (yieldsIf_load_row (by rfl) 31 (.tmp 5) rfl g5 rfl 31 cm.toArray (0, 0) _ (fun w' hw' => hw'.2.2) Tryd.underlying31 rfl (by rw [CSZ.out]; kernel_rfl)) hHeld ?_
  go_frame
  refine wpAnyH_ready (rs := [6]) (by kernel_rfl) (by simp) (held_cons rfl (fun K hK => ?_) AllReadyH.nil)
  go_simp
  refine (CS.out wd ST.out.set (HE.out _ ST.out.kps)).mono ?_
  rintro e v1 ⟨rfl, m', s2, m2, k3⟩
  have hv1 : v1.cell? ⟨gw, 0, none⟩ = some (.pointer (some ⟨a, 0, none⟩)) ∧ v1.heap[g4]? = some (.cells cp.toArray 28 (0, 0)) ∧ v1.heap[g5]? = some (.cells cm.toArray 31 (0, 0)) := ⟨(ST.out.turn k3 s2 m2).ptr, ST.out.far3 hHeld.2.1 k3 (by decide), ST.out.far3 hHeld.2.2 k3 (by decide)⟩
  have KF := Lib.hid (KF.out.trans (k3.mono fun j _ hj => ⟨hj.1, hj.2.1⟩))
  have ST := Lib.hid (ST.out.turn k3 s2 m2)
  clear s2 k3 m2 hHeld
  go_wp2_with fail
  refine hK.out _ _ hv1 (fun hHeld => ?_)
  clear hK K hv1
  refine held_take (i := 7) (v := (errV E r)) rfl (by kernel_rfl) (by kernel_rfl) (by kernel_rfl) (fun _ _ _ h => h) (Or.inl ⟨by rfl, fun w' _ => by kernel_rfl⟩) hHeld ?_
  go_frame
  refine wpAnyH_done (by kernel_rfl) ?_ _
  have F4 := Lib.hid hHeld.2.1
  have F5 := Lib.hid hHeld.2.2
  clear hHeld
  obtain ⟨wy, hwy⟩ : ∃ wy, wy = v1 := ⟨_, rfl⟩
  rw [← hwy] at F4 F5 ST KF ⊢
  clear hwy
  cases r with
  | zero =>
    rw [show errV E 0 = .nilIface from rfl]
    have SOK : Hid (SpOk ⟨p, c⟩) := ⟨HP.out, COK.out⟩
    obtain ⟨sp, hsp⟩ : ∃ sp, sp = spL ⟨p, c⟩ := ⟨_, rfl⟩
    obtain ⟨sx, hsx⟩ : ∃ sx, sx = stepL (⟨p, c⟩, false) := ⟨_, rfl⟩
    have SXE := Lib.hid hsx
    have SXL : Hid (sx.length = 69) := by show _ = _; rw [hsx]; exact stepL_length SOK.out
    have SXO : Hid (∀ u ∈ sx, u.oneCell' = true) := by rw [hsx]; exact stepL_one _
    have SPB : Hid (Tryd.prog.built 33 [(0, .agg cp.toArray), (1, .agg cm.toArray)] = some sp.toArray) := by
      show _ = _
      rw [CPE.out, CME.out, hsp]
      exact built_sp _ SOK.out
    have STB : Hid (Tryd.prog.built 107 [(0, .agg sp.toArray)] = some sx.toArray) := by
      show _ = _
      rw [hsp, hsx]
      exact built_step0 _ SOK.out
    clear hsp hsx
    go_upto_region 3 with fail
    refine wp_region_held_drew (S := (fun w' => w'.heap[g4]? = some (.cells cp.toArray 28 (0, 0)) ∧ w'.heap[g5]? = some (.cells cm.toArray 31 (0, 0)))) (by kernel_rfl) (⟨row_below F4.out (Below.drew (Below.refl _ _)), row_below F5.out (Below.drew (Below.refl _ _))⟩) (fun hHeld => ?_)
    have ST := Lib.hid (ST.out.below (Below.drew (Below.refl _ _)))
    have KF := Lib.hid (KF.out.trans (Kps.new (Below.drew (Below.refl _ _))))
    generalize hwd : wy.drew = wd at ST KF hHeld ⊢
    clear hwd
    refine held_take (i := 0) (v := (.pointer (some ⟨gw, 0, none⟩))) rfl (by kernel_rfl) (by kernel_rfl) (by kernel_rfl) (fun _ _ _ h => h) (Or.inl ⟨by rfl, fun w' _ => by kernel_rfl⟩) hHeld ?_
    go_frame
    refine held_take (i := 1) (v := (.pointer (some ⟨gw, 0, none⟩))) rfl (by kernel_rfl) (by kernel_rfl) (by kernel_rfl) (fun _ _ _ h => h) (Or.inl ⟨by rfl, fun w' _ => by kernel_rfl⟩) hHeld ?_
    go_frame
    refine held_take (i := 2) (v := (.pointer (some ⟨gw, 0, none⟩))) rfl (by kernel_rfl) (by kernel_rfl) (by kernel_rfl) (fun _ _ _ h => h) (Or.inl ⟨by rfl, fun w' _ => by kernel_rfl⟩) hHeld ?_
    go_frame
    refine held_take (i := 3) (v := (.pointer (some ⟨gw, 1, none⟩))) rfl (by kernel_rfl) (by kernel_rfl) (by kernel_rfl) (fun _ _ _ h => h) (Or.inl ⟨by rfl, fun w' _ => by kernel_rfl⟩) hHeld ?_
    go_frame
    refine held_take (i := 5) (v := (.agg cp.toArray)) rfl (by kernel_rfl) (by kernel_rfl) (by kernel_rfl) (fun _ _ _ h => h) (yieldsIf_load_row (by rfl) 28 (.tmp 4) rfl g4 rfl 28 cp.toArray (0, 0) _ (fun w' hw' => hw'.1) Tryd.underlying28 rfl (by rw [PSZ.out]; kernel_rfl)) hHeld ?_
    go_frame
    refine held_take (i := 6) (v := (.agg cm.toArray)) rfl (by kernel_rfl) (by kernel_rfl) (by kernel_rfl) (fun _ _ _ h => h) (yieldsIf_load_row (by rfl) 31 (.tmp 5) rfl g5 rfl 31 cm.toArray (0, 0) _ (fun w' hw' => hw'.2) Tryd.underlying31 rfl (by rw [CSZ.out]; kernel_rfl)) hHeld ?_
    go_frame
    refine held_take (i := 7) (v := (.agg sp.toArray)) rfl (by kernel_rfl) (by kernel_rfl) (by kernel_rfl) (fun _ _ _ h => h) (yieldsIf_build (by rfl) 33 _ rfl [(0, .agg cp.toArray), (1, .agg cm.toArray)] (by kernel_rfl) _ SPB.out) hHeld ?_
    go_frame
    refine held_take (i := 8) (v := (.agg sx.toArray)) rfl (by kernel_rfl) (by kernel_rfl) (by kernel_rfl) (fun _ _ _ h => h) (yieldsIf_build (by rfl) 107 _ rfl [(0, .agg sp.toArray)] (by kernel_rfl) _ STB.out) hHeld ?_
    go_frame
    refine wpAnyH_ready (rs := [4, 9]) (by kernel_rfl) (by simp) (held_cons rfl (fun K hK => ?_) (held_cons rfl (fun K hK => ?_) AllReadyH.nil))
    · skip
      rw [if_pos (by rfl)]
      refine wp_load_cell 74 (.tmp 20) rfl gw 1 rfl vb _ ST.out.steps Tryd.underlying74 rfl ?_
      go_frame
      refine hK.out _ _ hHeld (fun hHeld => ?_)
      clear hK K
      refine wpAnyH_ready (rs := [9]) (by kernel_rfl) (by simp) (held_cons rfl (fun K hK => ?_) AllReadyH.nil)
      rw [if_pos (by rfl)]
      refine wp_slice_one 74 107 (.tmp 25) rfl sx rfl Tryd.underlying74 i1 _ hi1 hy0 (by rw [hy1, SXL.out]) (by rw [SXL.out]; omega) (by rw [SXL.out]; omega) ?_
      have nf := heap_alloc_new wd (.cells sx.toArray 107 (0, 0))
      have bb := (Below.refl wd.heap.size wd).alloc (Nat.le_refl _) (.cells sx.toArray 107 (0, 0))
      obtain ⟨gv2, hgv2⟩ : ∃ g, g = wd.heap.size := ⟨_, rfl⟩
      generalize hqv2 : World.alloc _ _ = v2
      have ev2 : wd.alloc (.cells sx.toArray 107 (0, 0)) = v2 := hqv2
      rw [ev2] at nf bb
      rw [← hgv2] at nf ⊢
      have NF := Lib.hid nf
      have ST := Lib.hid (ST.out.below bb)
      have KF := Lib.hid (KF.out.trans (Kps.new bb))
      have hv2 := (show _ ∧ _ from ⟨row_below hHeld.1 bb, row_below hHeld.2 bb⟩)
      clear nf bb hqv2 ev2 hgv2 hHeld
      go_frame
      refine hK.out _ _ hv2 (fun hHeld => ?_)
      clear hK K hv2
      refine wpAnyH_ready (rs := [10]) (by kernel_rfl) (by simp) (held_cons rfl (fun K hK => ?_) AllReadyH.nil)
      rw [if_pos (by rfl)]
      refine wp_append_row v2 (.tmp 21) (.tmp 26) 74 rfl w0.heap.size 107 i1 (.agg (stepL (spZ, false)).toArray) 69 104 Tryd.underlying74 hi1 hy0 hy1 hy2 (by kernel_rfl) (by decide) vb _ (st.map stepL).flatten rfl ST.out.row.1 ⟨gv2, 0, none⟩ 1 1 sx rfl (by rw [SXL.out]) (fun j u hj => by rw [Addr.add_mid]; exact range_of_box NF.out j u hj) SXO.out (by have := DL.out; unfold maxLen; omega) (by have := DL.out; omega) ST.out.kps.size ?_
      intro xv3 v3 q1 q2 q3
      have VO := Lib.hid (own_one q1)
      have hv3 : _ ∧ _ := ⟨ST.out.far1 hHeld.1 q2 (by decide), ST.out.far1 hHeld.2 q2 (by decide)⟩
      have KF := Lib.hid (KF.out.trans (Kps.grown q2 fun k _ hk e => hk.2.2.2 e.symm))
      have ST := Lib.hid (ST.out.push (x := (⟨p, c⟩, false)) SOK.out (by rw [← SXE.out]; exact q1) q2)
      clear q1 q2 q3 hHeld NF
      go_frame
      refine hK.out _ _ hv3 (fun hHeld => ?_)
      clear hK K hv3
      refine held_take (i := 11) (v := (.pointer (some ⟨gw, 0, none⟩))) rfl (by kernel_rfl) (by kernel_rfl) (by kernel_rfl) (fun _ _ _ h => h) (Or.inl ⟨by rfl, fun w' _ => by kernel_rfl⟩) hHeld ?_
      go_frame
      refine held_take (i := 12) (v := (.pointer (some ⟨gw, 1, none⟩))) rfl (by kernel_rfl) (by kernel_rfl) (by kernel_rfl) (fun _ _ _ h => h) (Or.inl ⟨by rfl, fun w' _ => by kernel_rfl⟩) hHeld ?_
      go_frame
      refine wpAnyH_ready (rs := [13]) (by kernel_rfl) (by simp) (held_cons rfl (fun K hK => ?_) AllReadyH.nil)
      rw [if_pos (by rfl)]
      refine wp_store_part 74 (.tmp 29) (.tmp 27) rfl gw 1 [(.pointer (some ⟨a, 0, none⟩))] [vb] [] [xv3] 76 xv3 rfl rfl (cells_one VO.out) rfl rfl (by rw [ST.out.box]; rfl) (by kernel_rfl) (one_mem VO.out) ?_
      intro v4 q1 q2
      have hv4 : _ ∧ _ := ⟨ST.out.far2 hHeld.1 q2 (by decide), ST.out.far2 hHeld.2 q2 (by decide)⟩
      have KF := Lib.hid (KF.out.trans (Kps.grown q2 fun k _ hk e => hk.2.2.1 (Option.some.inj e)))
      have ST := Lib.hid (ST.out.store (by rw [q1]; rfl) q2)
      clear q1 q2 hHeld
      go_frame
      refine hK.out _ _ hv4 (fun hHeld => ?_)
      clear hK K hv4
      refine wpAnyH_done (by kernel_rfl) ?_ _
      clear hHeld
      go_wp2_with fail
      go_ret
      exact ⟨rfl, KF.out, _, _, ST.out⟩
    · skip
      rw [if_pos (by rfl)]
      refine wp_slice_one 74 107 (.tmp 25) rfl sx rfl Tryd.underlying74 i1 _ hi1 hy0 (by rw [hy1, SXL.out]) (by rw [SXL.out]; omega) (by rw [SXL.out]; omega) ?_
      have nf := heap_alloc_new wd (.cells sx.toArray 107 (0, 0))
      have bb := (Below.refl wd.heap.size wd).alloc (Nat.le_refl _) (.cells sx.toArray 107 (0, 0))
      obtain ⟨gv5, hgv5⟩ : ∃ g, g = wd.heap.size := ⟨_, rfl⟩
      generalize hqv5 : World.alloc _ _ = v5
      have ev5 : wd.alloc (.cells sx.toArray 107 (0, 0)) = v5 := hqv5
      rw [ev5] at nf bb
      rw [← hgv5] at nf ⊢
      have NF := Lib.hid nf
      have ST := Lib.hid (ST.out.below bb)
      have KF := Lib.hid (KF.out.trans (Kps.new bb))
      have hv5 := (show _ ∧ _ from ⟨row_below hHeld.1 bb, row_below hHeld.2 bb⟩)
      clear nf bb hqv5 ev5 hgv5 hHeld
      go_frame
      refine hK.out _ _ hv5 (fun hHeld => ?_)
      clear hK K hv5
      refine wpAnyH_ready (rs := [4]) (by kernel_rfl) (by simp) (held_cons rfl (fun K hK => ?_) AllReadyH.nil)
      rw [if_pos (by rfl)]
      refine wp_load_cell 74 (.tmp 20) rfl gw 1 rfl vb _ ST.out.steps Tryd.underlying74 rfl ?_
      go_frame
      refine hK.out _ _ hHeld (fun hHeld => ?_)
      clear hK K
      refine wpAnyH_ready (rs := [10]) (by kernel_rfl) (by simp) (held_cons rfl (fun K hK => ?_) AllReadyH.nil)
      rw [if_pos (by rfl)]
      refine wp_append_row v5 (.tmp 21) (.tmp 26) 74 rfl w0.heap.size 107 i1 (.agg (stepL (spZ, false)).toArray) 69 104 Tryd.underlying74 hi1 hy0 hy1 hy2 (by kernel_rfl) (by decide) vb _ (st.map stepL).flatten rfl ST.out.row.1 ⟨gv5, 0, none⟩ 1 1 sx rfl (by rw [SXL.out]) (fun j u hj => by rw [Addr.add_mid]; exact range_of_box NF.out j u hj) SXO.out (by have := DL.out; unfold maxLen; omega) (by have := DL.out; omega) ST.out.kps.size ?_
      intro xv7 v7 q1 q2 q3
      have VO := Lib.hid (own_one q1)
      have hv7 : _ ∧ _ := ⟨ST.out.far1 hHeld.1 q2 (by decide), ST.out.far1 hHeld.2 q2 (by decide)⟩
      have KF := Lib.hid (KF.out.trans (Kps.grown q2 fun k _ hk e => hk.2.2.2 e.symm))
      have ST := Lib.hid (ST.out.push (x := (⟨p, c⟩, false)) SOK.out (by rw [← SXE.out]; exact q1) q2)
      clear q1 q2 q3 hHeld NF
      go_frame
      refine hK.out _ _ hv7 (fun hHeld => ?_)
      clear hK K hv7
      refine held_take (i := 11) (v := (.pointer (some ⟨gw, 0, none⟩))) rfl (by kernel_rfl) (by kernel_rfl) (by kernel_rfl) (fun _ _ _ h => h) (Or.inl ⟨by rfl, fun w' _ => by kernel_rfl⟩) hHeld ?_
      go_frame
      refine held_take (i := 12) (v := (.pointer (some ⟨gw, 1, none⟩))) rfl (by kernel_rfl) (by kernel_rfl) (by kernel_rfl) (fun _ _ _ h => h) (Or.inl ⟨by rfl, fun w' _ => by kernel_rfl⟩) hHeld ?_
      go_frame
      refine wpAnyH_ready (rs := [13]) (by kernel_rfl) (by simp) (held_cons rfl (fun K hK => ?_) AllReadyH.nil)
      rw [if_pos (by rfl)]
      refine wp_store_part 74 (.tmp 29) (.tmp 27) rfl gw 1 [(.pointer (some ⟨a, 0, none⟩))] [vb] [] [xv7] 76 xv7 rfl rfl (cells_one VO.out) rfl rfl (by rw [ST.out.box]; rfl) (by kernel_rfl) (one_mem VO.out) ?_
      intro v8 q1 q2
      have hv8 : _ ∧ _ := ⟨ST.out.far2 hHeld.1 q2 (by decide), ST.out.far2 hHeld.2 q2 (by decide)⟩
      have KF := Lib.hid (KF.out.trans (Kps.grown q2 fun k _ hk e => hk.2.2.1 (Option.some.inj e)))
      have ST := Lib.hid (ST.out.store (by rw [q1]; rfl) q2)
      clear q1 q2 hHeld
      go_frame
      refine hK.out _ _ hv8 (fun hHeld => ?_)
      clear hK K hv8
      refine wpAnyH_done (by kernel_rfl) ?_ _
      clear hHeld
      go_wp2_with fail
      go_ret
      exact ⟨rfl, KF.out, _, _, ST.out⟩
  | succ r =>
    rw [show errV E (r + 1) = .iface 142 (.pointer (some (E r))) from rfl]
    go_wp2_with fail
    go_ret
    exact ⟨rfl, KF.out, _, _, ST.out⟩
end Go.Proofs.YtibfamhhjnaeiaaDoor.Sha

/-
  What package tx is shown to answer of a transaction's digest, as a hypothesis for the statements' walks. No conditions.
-/
namespace Go.Proofs.YtibfamhhjnaeiaaDoor.Sha
open Go Go.RowKit
def IdC : Prop := ∀ (t : TTx) (v : Value) (w : World), KTab w → TxAt w v t → TxSmall t →
  Calls Tryd.prog 46 #[v] w fun e w' => e = .returned (.agg ((sha (sha (txB t))).map bV).toArray) ∧ Below w.heap.size w w'
end Go.Proofs.YtibfamhhjnaeiaaDoor.Sha

/-
  Package tx tells whether a transaction makes coins, and whether inputs of no place are there only where they may be. Nothing that was there turns. Condition: a transaction of a few inputs and outputs that lies in memory.
-/
namespace Go.Proofs.YtibfamhhjnaeiaaDoor.Sha
open Go Go.RowKit
theorem base_of {t : TTx} : (∃ x, t.ins = [x] ∧ baseB t = isNullIn x) ∨ (t.ins.length ≠ 1 ∧ baseB t = false) := by
  unfold baseB
  rcases h : t.ins with _ | ⟨x, _ | ⟨y, r⟩⟩
  · exact .inr ⟨by simp, rfl⟩
  · exact .inl ⟨x, rfl, rfl⟩
  · exact .inr ⟨by simp, rfl⟩
set_option maxHeartbeats 1000000 in
set_option maxRecDepth 100000 in
theorem base_all : BaseC := by
  intro t v w b hb h1 hs
  have HBb := Lib.hid hb
  clear hb
  have h1' := h1
  obtain ⟨ht0, iv, ov, rfl, hti, hto⟩ := h1
  obtain ⟨si, ci, rfl, hci, hti⟩ := hti
  obtain ⟨so, co, rfl, hco, hto⟩ := hto
  have HTI := Lib.hid hti
  have HTO := Lib.hid hto
  obtain ⟨ni, hn1⟩ : ∃ ni, ni = t.ins.length := ⟨_, rfl⟩
  obtain ⟨no, hn2⟩ : ∃ no, no = t.outs.length := ⟨_, rfl⟩
  obtain ⟨vt, hvt⟩ : ∃ vt, vt = t.ver := ⟨_, rfl⟩
  obtain ⟨tt, htt⟩ : ∃ tt, tt = t.time := ⟨_, rfl⟩
  have NI := Lib.hid hn1
  have NO := Lib.hid hn2
  have VT := Lib.hid hvt
  have TT := Lib.hid htt
  have TS := Lib.hid hs
  have bni : ni ≤ 1000 := by rw [hn1]; exact hs.2.1
  have bno : no ≤ 1000 := by rw [hn2]; exact hs.2.2.1
  simp only [txL, ← hn1, ← hn2, ← hvt, ← htt] at h1' ⊢
  have H1 := Lib.hid h1'
  clear hn1 hn2 hci hco hvt htt ht0 hti hto h1' hs
  
  go_enter Tryd.func43, Tryd.ntmps43
  go_upto_region 1 with fail
  have F := Lib.hid (heap_alloc_new w (.cells [nV vt, .slice si ni ci, .slice so no co, nV tt].toArray 58 (0, 0)))
  have B0 := Lib.hid ((Below.refl w.heap.size w).alloc (Nat.le_refl _) (.cells [nV vt, .slice si ni ci, .slice so no co, nV tt].toArray 58 (0, 0)))
  generalize hw1 : World.alloc _ _ = w1
  have e1 : w.alloc (.cells [nV vt, .slice si ni ci, .slice so no co, nV tt].toArray 58 (0, 0)) = w1 := hw1
  rw [e1] at F B0
  clear hw1 e1
  have BOX : Hid (∀ w', Below w1.heap.size w1 w' → ∀ j v, [nV vt, .slice si ni ci, .slice so no co, nV tt][j]? = some v → w'.cell? ⟨w.heap.size, j, none⟩ = some v) := fun w' hw' j v hj => by
    rw [cell_of_row _ _ _ _ _ _ (row_below F.out hw'), List.getElem?_toArray]
    exact hj
  have c1 : w1.cell? ⟨w.heap.size, 1, none⟩ = some (.slice si ni ci) := BOX.out w1 (Below.refl _ _) 1 _ rfl
  rcases base_of (t := t) with ⟨x, hx, hbx⟩ | ⟨hne, hbx⟩
  · have hn1 : ni = 1 := by rw [NI.out, hx]; rfl
    obtain ⟨b1, o1, hs1, he1⟩ := HTI.out (by rw [hx]; exact Nat.zero_lt_one)
    obtain ⟨hx1, kx, hkx2, hr1⟩ := he1 0 x (by rw [hx]; rfl)
    have RP := Lib.hid (in_pt (range_below hr1 B0.out))
    have LP : Hid ((ptL x.h x.n).length = 33) := by show _ = _; simp [ptL, hx1.1]
    have XOK := Lib.hid hx1
    have HX : Hid (b = (decide (x.h = List.replicate 32 0) && decide (x.n = 4294967295))) := by show _ = _; rw [HBb.out, hbx]; rfl
    clear hx hbx he1 hx1 hkx2 hr1
    subst hs1
    have NI2 := Lib.hid hn1
    have e1 : ((ni : Int) == 1) = true := by rw [beq_iff_eq]; omega
    have q0 : (0 : Int) < (ni : Int) := by omega
    clear hn1
    go_wp2_with ((with_reducible show wpList _ _ _ _ _ _); refine wpList_load_midG 28 (.tmp 11) rfl b1 (o1 + 0 * 35) (by simp [Act.eval]) (ptL x.h x.n) _ RP.out Tryd.underlying28 rfl (by rw [LP.out]; kernel_rfl) (by rfl) ?_; go_frame)
    refine (isnull_any x.h x.n XOK.out.1 b HX.out _).mono ?_
    rintro e w3 ⟨rfl, hb3⟩
    have B3 := Lib.hid (B0.out.trans (hb3.mono B0.out.size))
    clear hb3
    go_wp2_with fail
    go_ret
    exact ⟨rfl, B3.out⟩
  · have e1 : ((ni : Int) == 1) = false := by rw [beq_eq_false_iff_ne]; rw [← NI.out] at hne; omega
    have HX : Hid (b = false) := by show _ = _; rw [HBb.out, hbx]
    clear hne hbx
    obtain rfl : b = false := HX.out
    go_wp2_with fail
    go_ret
    exact ⟨rfl, B0.out⟩
def BrInv (n : Nat) (t : TTx) (w1 : World) (i : Value) (wr : World) : Prop := ∃ k : Nat, k ≤ n ∧ i = .int .i64 k ∧ (∀ (j : Nat) x, j < k → t.ins[j]? = some x → isNullIn x = false) ∧ Below w1.heap.size w1 wr
/-- What basesRight is to answer. -/
def rightB (t : TTx) : Bool := if baseB t then !(t.ins.any fun x => decide (x.key.length < 4)) else !(t.ins.any isNullIn)
end Go.Proofs.YtibfamhhjnaeiaaDoor.Sha

/-
  What a transaction does to a set's coins, as plain mathematics; what was done, step by step; which memory stays while the way turns; which inputs spend. No conditions beyond those that each states.
-/
namespace Go.Proofs.YtibfamhhjnaeiaaDoor.Sha
open Go Go.RowKit
def ptOf (x : TIn) : TPt := ⟨x.h, x.n⟩
def spStep (r : List TSp × List TSp) (x : TIn) : Except Nat (List TSp × List TSp) :=
  match getC r.2 (ptOf x) with
  | none => .error 13
  | some c => .ok (r.1 ++ [⟨ptOf x, c⟩], delC r.2 (ptOf x))
def idT (t : TTx) : List UInt8 := sha (sha (txB t))
def coinO (ht : Int) (b : Bool) (y : TOut) : TMn := ⟨y.val, y.lock, ht, b⟩
def adStep (id : List UInt8) (ht : Int) (b : Bool) (l : List TSp) (x : TOut × Nat) : Except Nat (List TSp) :=
  if addR l ⟨id, x.2⟩ (coinO ht b x.1) = 0 then .ok (l ++ [⟨⟨id, x.2⟩, coinO ht b x.1⟩]) else .error (addR l ⟨id, x.2⟩ (coinO ht b x.1))
/-- The inputs that spend. -/
def insS (t : TTx) : List TIn := if baseB t then [] else t.ins
/-- A transaction put on: what it took, the coins then; or the error's number. -/
def putE (ht : Int) (l : List TSp) (t : TTx) : Except Nat (List TSp × List TSp) :=
  match (insS t).foldlM spStep ([], l) with
  | .error c => .error c
  | .ok r => match t.outs.zipIdx.foldlM (adStep (idT t) ht (baseB t)) r.2 with
    | .error c => .error c
    | .ok l' => .ok (r.1, l')
theorem foldlM_snoc {α β : Type} (f : β → α → Except Nat β) (xs : List α) (x : α) (b : β) : (xs ++ [x]).foldlM f b = match xs.foldlM f b with | .error c => .error c | .ok r => f r x := by
  rw [List.foldlM_append]
  cases h : xs.foldlM f b with
  | error c => rfl
  | ok r =>
    show ([x].foldlM f r) = f r x
    rw [List.foldlM_cons]
    cases f r x <;> rfl
theorem foldlM_err {α β : Type} (f : β → α → Except Nat β) : ∀ (xs ys : List α) (b : β) (c : Nat), xs.foldlM f b = .error c → (xs ++ ys).foldlM f b = .error c := by
  intro xs ys b c h
  rw [List.foldlM_append, h]
  rfl
theorem foldlM_stop {α β : Type} (f : β → α → Except Nat β) {xs : List α} {k : Nat} {x : α} {b r : β} {c : Nat} (hx : xs[k]? = some x) (h : (xs.take k).foldlM f b = .ok r) (hf : f r x = .error c) : xs.foldlM f b = .error c := by
  have hk := (List.getElem?_eq_some_iff.1 hx).1
  have e : xs = (xs.take k ++ [x]) ++ xs.drop (k + 1) := by
    rw [← (List.getElem?_eq_some_iff.1 hx).2, ← List.take_succ_eq_append_getElem hk, List.take_append_drop]
  rw [e]
  refine foldlM_err f _ _ b c ?_
  rw [foldlM_snoc, h]
  exact hf
theorem foldlM_on {α β : Type} (f : β → α → Except Nat β) {xs : List α} {k : Nat} {x : α} {b r r' : β} (hx : xs[k]? = some x) (h : (xs.take k).foldlM f b = .ok r) (hf : f r x = .ok r') : (xs.take (k + 1)).foldlM f b = .ok r' := by
  have hk := (List.getElem?_eq_some_iff.1 hx).1
  rw [List.take_succ_eq_append_getElem hk, (List.getElem?_eq_some_iff.1 hx).2, foldlM_snoc, h]
  exact hf
/-- What was done leads from l0 to l. -/
inductive Tr (l0 : List TSp) : List (TSp × Bool) → List TSp → Prop
  | nil : Tr l0 [] l0
  | spend {st : List (TSp × Bool)} {l : List TSp} {p : TPt} {c : TMn} (h : Tr l0 st l) (hc : getC l p = some c) : Tr l0 (st ++ [(⟨p, c⟩, true)]) (delC l p)
  | add {st : List (TSp × Bool)} {l : List TSp} {p : TPt} {c : TMn} (h : Tr l0 st l) (hc : addR l p c = 0) : Tr l0 (st ++ [(⟨p, c⟩, false)]) (l ++ [⟨p, c⟩])
/-- Memory of other kinds stays. -/
def Stand (w w' : World) : Prop := w.heap.size ≤ w'.heap.size ∧ ∀ (g : Nat) (cs : Array Value) (T : TypeId) (fr : Nat × Nat), T ≠ 47 → 107 ≠ T → 76 ≠ T → w.heap[g]? = some (.cells cs T fr) → w'.heap[g]? = some (.cells cs T fr)
theorem Stand.refl (w : World) : Stand w w := ⟨Nat.le_refl _, fun _ _ _ _ _ _ _ h => h⟩
theorem Stand.trans {w w1 w2 : World} (h : Stand w w1) (k : Stand w1 w2) : Stand w w2 := ⟨Nat.le_trans h.1 k.1, fun g cs T fr a b c hg => k.2 g cs T fr a b c (h.2 g cs T fr a b c hg)⟩
theorem Stand.below {w w1 w2 : World} (h : Stand w w1) (hb : Below w1.heap.size w1 w2) : Stand w w2 := h.trans ⟨hb.size, fun _ _ _ _ _ _ _ hg => row_below hg hb⟩
theorem Stand.box {w w1 : World} (h : Stand w w1) {g : Nat} {cs : Array Value} {T : TypeId} {fr : Nat × Nat} (hg : w.heap[g]? = some (.cells cs T fr)) (h1 : T ≠ 47) (h2 : 107 ≠ T) (h3 : 76 ≠ T) : w1.heap[g]? = some (.cells cs T fr) := h.2 g cs T fr h1 h2 h3 hg
theorem Stand.row {w w1 : World} (h : Stand w w1) {base k : Nat} {T : TypeId} {u : Value} {L : List (List Value)} (hr : RwOwn k T base w u L) (h1 : T ≠ 47) (h2 : 107 ≠ T) (h3 : 76 ≠ T) : RwOwn k T base w1 u L := by
  refine ⟨⟨hr.1.1, ?_⟩, hr.2⟩
  rcases hr.1.2 with hn | ⟨b, cap, cur, rfl, hb, hc, rest⟩
  · exact .inl hn
  · exact .inr ⟨b, cap, cur, rfl, hb, h.box hc h1 h2 h3, rest⟩
theorem Stand.grown {w w1 w2 : World} (h : Stand w w1) {q : Option Nat} (hg : w1.grownBy w2 q) (hq : ∀ k, q = some k → w.heap.size ≤ k) : Stand w w2 :=
  ⟨Nat.le_trans h.1 hg.size, fun g cs T fr a b c hr => row_far (h.2 g cs T fr a b c hr) hg (fun e => by
    have h1 := (Array.getElem?_eq_some_iff.1 hr).1
    have := hq g e
    omega)⟩
theorem WyG.stays {w0 w w' : World} {a gw : Nat} {m0 m : Option Nat} {l : List TSp} {vb v : Value} {st : List (TSp × Bool)} (h : WyG w0 a m0 gw w m l vb v st) (hk : Kps (FF a m gw v) w w') : Stand w w' := ⟨hk.size, fun _ _ _ _ h1 h2 h3 hg => h.stay hk hg h1 h2 h3⟩
theorem built_mn (c : TMn) (hc : MnOk c) : Tryd.prog.built 31 [(0, .int .u64 (c.val : Int)), (1, .agg (c.lock.map bV).toArray), (2, .int .i64 c.height), (3, .bool c.base)] = some (mnL c).toArray := by
  have hz : ∀ parts, Tryd.prog.built 31 parts = Instr.fill ([(0, 1), (1, 32), (33, 1), (34, 1)].toArray[·]?) (mnL mnZ).toArray parts := fun parts => by kernel_rfl
  obtain ⟨x, k, y, z⟩ := c
  have l1 : (k.map bV).length = 32 := by simp [show k.length = 32 from hc.1]
  have l2 : (mnL mnZ).length = 35 := rfl
  have e0 : mnL mnZ = .int .u64 0 :: (List.replicate 32 (bV 0) ++ [.int .i64 0, .bool false]) := by simp [mnL, mnZ]
  rw [hz, fill_part _ 0 0 (.int .u64 (x : Int)) [.int .u64 (x : Int)] _ _ rfl rfl (by simp [l2]), List.take_zero, List.nil_append, List.length_singleton, Nat.zero_add]
  have e1 : [Value.int .u64 (x : Int)] ++ (mnL mnZ).drop 1 = .int .u64 (x : Int) :: (List.replicate 32 (bV 0) ++ [.int .i64 0, .bool false]) := by rw [e0]; rfl
  rw [e1, fill_part _ 1 1 (.agg (k.map bV).toArray) (k.map bV) _ _ rfl (by rw [l1]; rfl) (by simp [l1])]
  have e2 : (Value.int .u64 (x : Int) :: (List.replicate 32 (bV 0) ++ [.int .i64 0, .bool false])).take 1 ++ k.map bV ++ (Value.int .u64 (x : Int) :: (List.replicate 32 (bV 0) ++ [.int .i64 0, .bool false])).drop (1 + (k.map bV).length) = .int .u64 (x : Int) :: (k.map bV ++ [.int .i64 0, .bool false]) := by
    rw [l1, show 1 + 32 = 32 + 1 from rfl, List.drop_succ_cons, List.drop_append_of_le_length (by simp), List.drop_eq_nil_of_le (by simp)]
    rfl
  rw [e2, fill_part _ 2 33 (.int .i64 y) [.int .i64 y] _ _ rfl rfl (by simp [l1])]
  have e3 : (Value.int .u64 (x : Int) :: (k.map bV ++ [.int .i64 0, .bool false])).take 33 ++ [.int .i64 y] ++ (Value.int .u64 (x : Int) :: (k.map bV ++ [.int .i64 0, .bool false])).drop (33 + [Value.int .i64 y].length) = .int .u64 (x : Int) :: (k.map bV ++ [.int .i64 y, .bool false]) := by
    rw [List.take_succ_cons, List.take_append_of_le_length (by omega), List.take_of_length_le (by omega), List.length_singleton, show 33 + 1 = 33 + 1 from rfl, List.drop_succ_cons, List.drop_append, List.drop_eq_nil_of_le (by omega), l1]
    simp
  rw [e3, fill_part _ 3 34 (.bool z) [.bool z] _ _ rfl rfl (by simp [l1])]
  have e4 : (Value.int .u64 (x : Int) :: (k.map bV ++ [.int .i64 y, .bool false])).take 34 ++ [.bool z] ++ (Value.int .u64 (x : Int) :: (k.map bV ++ [.int .i64 y, .bool false])).drop (34 + [Value.bool z].length) = .int .u64 (x : Int) :: (k.map bV ++ [.int .i64 y, .bool z]) := by
    rw [List.take_succ_cons, List.take_append, List.take_of_length_le (by omega), l1, List.length_singleton, List.drop_succ_cons, List.drop_append, List.drop_eq_nil_of_le (by omega), l1]
    simp
  rw [e4]
  rfl
def spSlice (t : TTx) (iv : Value) : Value := if baseB t then .slice none 0 0 else iv
theorem insS_at {w : World} {t : TTx} {iv : Value} (h : InsAt w iv t.ins) : InsAt w (spSlice t iv) (insS t) := by
  unfold spSlice insS
  cases baseB t with
  | true => exact ⟨none, 0, rfl, Nat.le_refl _, fun h => absurd h (by simp)⟩
  | false => exact h
set_option maxHeartbeats 1000000 in
set_option maxRecDepth 100000 in
theorem spending_any (t : TTx) (iv ov : Value) (w : World) (h : TxAt w (.agg (txL t iv ov).toArray) t) (hs : TxSmall t) :
    Calls Tryd.prog 44 #[.agg (txL t iv ov).toArray] w fun e w' => e = .returned (spSlice t iv) ∧ Below w.heap.size w w' := by
  have BA : Hid (∀ W, Below w.heap.size w W → Calls Tryd.prog 43 #[.agg (txL t iv ov).toArray] W fun e w' => e = .returned (.bool (baseB t)) ∧ Below W.heap.size W w') := fun W hW => base_all t _ W _ rfl (h.below hW) hs
  have LS : Hid ((txL t iv ov).toArray.size = 4) := rfl
  unfold spSlice
  obtain ⟨b, hb⟩ : ∃ b, b = baseB t := ⟨_, rfl⟩
  rw [← hb] at BA ⊢
  have CI : Hid (∀ (W : World) (g : Nat), W.heap[g]? = some (.cells (txL t iv ov).toArray 58 (0, 0)) → W.cell? ⟨g, 1, none⟩ = some iv) := fun W g hg => (tx_cells hg).2.1
  obtain ⟨ct, hct⟩ : ∃ ct, ct = txL t iv ov := ⟨_, rfl⟩
  rw [← hct] at BA LS CI ⊢
  clear h hs hb hct
  go_enter Tryd.func44, Tryd.ntmps44
  go_upto_region 1 with fail
  have f1 := heap_alloc_new w (.cells ct.toArray 58 (0, 0))
  have b1 := (Below.refl w.heap.size w).alloc (Nat.le_refl _) (.cells ct.toArray 58 (0, 0))
  generalize hw1 : World.alloc _ _ = w1
  have e1 : w.alloc (.cells ct.toArray 58 (0, 0)) = w1 := hw1
  rw [e1] at f1 b1
  obtain ⟨g1, hg1⟩ : ∃ g1, g1 = w.heap.size := ⟨_, rfl⟩
  rw [← hg1] at f1 ⊢
  have F1 := Lib.hid f1
  have B1 := Lib.hid b1
  clear f1 b1 hw1 e1 hg1
  go_wp2_with ((with_reducible show wpList _ _ _ _ _ _); (refine wpList_load_row rfl 58 (.tmp 1) rfl g1 rfl 58 ct.toArray (0, 0) _ F1.out Tryd.underlying58 rfl (by rw [LS.out]; kernel_rfl) ?_; go_frame))
  refine (BA.out w1 B1.out).mono ?_
  rintro e w2 ⟨rfl, b2⟩
  have F1 := Lib.hid (row_below F1.out b2)
  have B2 := Lib.hid (B1.out.trans (b2.mono B1.out.size))
  clear b2
  cases b with
  | true =>
    go_wp2_with fail
    go_ret
    exact ⟨rfl, B2.out⟩
  | false =>
    have ci := CI.out _ _ F1.out
    go_wp2_with fail
    go_ret
    exact ⟨rfl, B2.out⟩
end Go.Proofs.YtibfamhhjnaeiaaDoor.Sha

/-
  What package tx is shown to answer of bytes as a transaction, as a hypothesis; what is read is small. No conditions.
-/
namespace Go.Proofs.YtibfamhhjnaeiaaDoor.Sha
open Go Go.RowKit
/-- What bytes are as a transaction. -/
structure ReadIs (bs : List UInt8) (t : TTx) (c : Nat) : Prop where
  eq : readTx bs = (t, c)
theorem ReadIs.back {bs : List UInt8} {t : TTx} {c : Nat} (h : ReadIs bs t c) (hc : c = 0) : bs = txB t ∧ TxRead t := by
  have h2 := read_back (b := bs) ((congrArg Prod.snd h.eq).trans hc)
  rw [h.eq] at h2
  exact h2
theorem TxRead.small {t : TTx} (h : TxRead t) : TxSmall t :=
  ⟨⟨h.1, h.2.1, h.2.2.1, fun x hx => Nat.le_trans (h.2.2.2.1 x hx) (by omega), Nat.le_trans h.2.2.2.2.1 (by omega), Nat.le_trans h.2.2.2.2.2 (by omega)⟩, Nat.le_trans h.2.2.2.2.1 (by omega), Nat.le_trans h.2.2.2.2.2 (by omega), fun x hx => Nat.le_trans (h.2.2.2.1 x hx) (by omega)⟩
theorem tx_one {w : World} {t : TTx} {iv ov : Value} (h1 : InsAt w iv t.ins) (h2 : OutsAt w ov t.outs) : (txL t iv ov).toArray.all (·.oneCell') = true := by
  obtain ⟨_, _, rfl, _⟩ := h1
  obtain ⟨_, _, rfl, _⟩ := h2
  rw [Array.all_eq_true_iff_forall_mem]
  intro x hx
  simp [txL] at hx
  rcases hx with rfl | rfl | rfl | rfl <;> rfl
theorem box1 (w : World) (x : List Value) (T : TypeId) : Below w.heap.size w (w.alloc (.cells x.toArray T)) ∧ (w.alloc (.cells x.toArray T)).heap[w.heap.size]? = some (.cells x.toArray T (0, 0)) :=
  ⟨(Below.refl _ _).alloc (Nat.le_refl _) _, heap_alloc_new _ _⟩
theorem read_pair (bs : List UInt8) : ∃ u c, ReadIs bs u c := by
  obtain ⟨u, c, h⟩ : ∃ u c, readTx bs = (u, c) := by
    generalize readTx bs = p
    exact ⟨p.1, p.2, rfl⟩
  exact ⟨u, c, ⟨h⟩⟩
theorem txB_ten (t : TTx) : 10 ≤ (txB t).length := by
  have h1 := lenN_bd t.ins.length
  have h2 := lenN_bd t.outs.length
  simp only [txB, List.length_append, leB_length, putL_length]
  omega
/-- A transaction's zero cells. -/
def txZ : Array Value := #[.int .u32 0, .slice none 0 0, .slice none 0 0, .int .u32 0]
theorem fine_check {t : TTx} (h : checkC t = 0) : checkN t = 0 := by
  unfold checkC checkN at *
  split at h
  · omega
  rename_i h1
  rw [if_neg h1]
  split at h
  · omega
  rename_i h2
  rw [if_neg h2]
  split at h
  · omega
  rename_i h3
  rw [if_neg h3]
  split at h
  · omega
  rename_i h4
  rw [if_neg h4]
  split at h
  · omega
  rename_i h5
  rw [if_neg h5]
  split at h
  · rename_i h6
    rw [if_pos h6]
    split at h
    · omega
    · rename_i h7
      rw [if_neg h7]
  · rename_i h6
    rw [if_neg h6]
    split at h
    · omega
    · rename_i h7
      rw [if_neg h7]
end Go.Proofs.YtibfamhhjnaeiaaDoor.Sha

/-
  bytes.Equal answers whether two slices have the same bytes; nothing is written. Condition: the bytes lie where the slices say.
-/
namespace Go.Proofs.YtibfamhhjnaeiaaDoor.Sha
open Go Go.RowKit
theorem conv_src {w : World} {v : Value} {bs : List UInt8} (h : SrcB w v bs) : (convert 35 9 v).run Tryd.prog w = .ok (.string ⟨bs.toArray⟩) w := by
  rcases h with ⟨sp, cap, rfl, rfl⟩ | ⟨h0, bb, off, cap, rfl, hc, hs⟩
  · cases sp with
    | none => exact Lib.run_convert_nil_bytes w _ _ _ cap Tryd.underlying35 Tryd.underlying5 Tryd.underlying9
    | some a => exact run_convert_bytes_back w _ _ _ a cap [] Tryd.underlying35 Tryd.underlying5 Tryd.underlying9 (fun j hj => absurd hj (by simp))
  · exact run_convert_bytes_back w _ _ _ ⟨bb, off, none⟩ cap bs Tryd.underlying35 Tryd.underlying5 Tryd.underlying9 (fun j hj => by
      rw [Addr.add_mid, hs j hj]
      simp [bv, List.getD, List.getElem?_eq_getElem hj])
theorem bytes_beq_of (x y : List UInt8) : ((⟨x.toArray⟩ : ByteArray).toList == (⟨y.toArray⟩ : ByteArray).toList) = decide (x = y) := by
  rw [ByteArray.toList_eq, ByteArray.toList_eq]
  show (x == y) = decide (x = y)
  by_cases h : x = y <;> simp [h]
end Go.Proofs.YtibfamhhjnaeiaaDoor.Sha

/-
  Small functions of the statements' own SHA-256: a word turned right, the table of the rounds' words, as the chapter gives them. No conditions.
-/
namespace Go.Proofs.YtibfamhhjnaeiaaDoor.Sha
open Go Go.RowKit
theorem right_fact (x : UInt32) (n : Nat) (h1 : 1 ≤ n) (h2 : n ≤ 31) : bits .or .u32 (wv x / 2 ^ n) (wv x * 2 ^ (32 - n) % 4294967296) = wv (rotr x n) := by
  rw [← IntKind.wrap_u32', wv_shl x _ (by omega), wv_shr x n (by omega), wv_or]
  rfl
theorem wv_sum3 (a b c : UInt32) : (wv a + wv b + wv c) % 4294967296 = wv (a + b + c) := by rw [← wv_sum, ← wv_sum]; omega
theorem wv_sum4 (a b c d : UInt32) : (wv a + wv b + wv c + wv d) % 4294967296 = wv (a + b + c + d) := by rw [← wv_sum, ← wv_sum3]; omega
theorem wv_not (x : UInt32) : bits .xor .u32 IntKind.u32.max (wv x) = wv (~~~x) := by
  rw [show IntKind.u32.max = wv 4294967295 from rfl, wv_xor, show (4294967295 : UInt32) = -1 from rfl, UInt32.neg_one_xor]
end Go.Proofs.YtibfamhhjnaeiaaDoor.Sha
