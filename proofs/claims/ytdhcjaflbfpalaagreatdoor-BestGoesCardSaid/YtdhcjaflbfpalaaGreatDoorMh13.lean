/-
  Texts of this proof joined into one file: CtAdd, SoEnv, SoIns, SoHeap, SoPivot. What each holds, and under which conditions, its own first sentence tells.
-/
import Derived.Sort.WalkA
import Derived.Sort.AtCall
import Derived.Shelf.Abstract
import Derived.Sort.WalkB3
import Derived.Test.YtdhcjaflbfpalaaGreatDoorMh12
import Derived.Test.YtdhcjaflbfpalaaGreatDoorMh01
import Derived.Test.YtdhcjaflbfpalaaGreatDoorMh05
/-
  The program's tree takes a header in, or tells what is amiss. Besides the tree's map, its nodes and their rows nothing that was there turns. Conditions: the tree lies where it should, a header as the model has it; the three errors and the table of the rounds' words are there.
-/
namespace Go.Proofs.YtdhcjaflbfpalaaGreatDoor.Sha
open Go Go.RowKit
structure CE (w : World) (E : Nat → Addr) : Prop where
  known : w.cell? ⟨0, 0, none⟩ = some (errV E 9)
  parent : w.cell? ⟨1, 0, none⟩ = some (errV E 10)
  full : w.cell? ⟨2, 0, none⟩ = some (errV E 21)
theorem CE.below {w w' : World} {E : Nat → Addr} (h : CE w E) (hb : Below w.heap.size w w') : CE w' E := ⟨cell_below h.known hb, cell_below h.parent hb, cell_below h.full hb⟩
/-- What Add leaves. -/
def CtaP (E : Nat → Addr) (base b mb : Nat) (M : List CNd) (h : THd) (w : World) (e : Ending) (wr : World) : Prop :=
  e = .returned (errV E (addE (ndM M) h - 100)) ∧ (addE (ndM M) h ≠ 0 → Below w.heap.size w wr) ∧ (addE (ndM M) h = 0 → ∃ M', ndM M' = ndM M ++ [nxT (ndM M) h] ∧ CtAt wr base b mb M' ∧ Kps (CF mb M) w wr)
theorem info_nptr : (Tryz.prog.info? 67).map (fun i => (i.zero, i.size, i.bytes)) = some (some (.pointer none), 1, 8) := by kernel_rfl
set_option maxHeartbeats 4000000 in
set_option maxRecDepth 100000 in
theorem ctadd_any (E : Nat → Addr) (w : World) (base b mb : Nat) (M : List CNd) (hd : THd) (h : CtAt w base b mb M) (ht : TrL (ndM M)) (hh : HdOk hd) (hk : KTab w) (hE : CE w E) (hbs : base ≤ w.heap.size) :
    Calls Tryz.prog 13 #[(.pointer (some ⟨b, 0, none⟩)), .agg (hdL hd).toArray] w (CtaP E base b mb M hd w) := by
  have HBS := Lib.hid hbs
  clear hbs
  obtain ⟨i0, hi, hz0, hz1, hz2⟩ := info_parts info_nptr
  have HT := Lib.hid h
  have TR := Lib.hid ht
  have LS := Lib.hid ht.start.1
  have CEE := Lib.hid hE
  have RI : Hid (∀ W, Below w.heap.size w W → Calls Tryz.prog 32 #[.agg (hdL hd).toArray] W fun e w' => e = .returned (.agg ((hdId hd).map bV).toArray) ∧ Below W.heap.size W w') := fun W hW => id_hd hd hh W (hk.below hW)
  have LC : Hid ((hdL hd).length = 68) := hdL_length hh
  have CW : Hid (∀ (W : World) (g : Nat), W.heap[g]? = some (.cells (hdL hd).toArray 28 (0, 0)) → W.cell? ⟨g, 66, none⟩ = some (.int .u32 (hd.work : Int))) := fun W g q => ((HdBox.mk q).cells hh).2.2.1
  have HW : Hid (hd.work ≤ 4294967295) := hh.2.2.2.2.1
  have CP : Hid (∀ (W : World) (g : Nat), W.heap[g]? = some (.cells (hdL hd).toArray 28 (0, 0)) → W.rangeAt g 1 (hd.prev.map bV)) := fun W g q => (HdBox.mk q).prev
  have LXN : Hid (∀ p, (cnL (nxT (ndM M) hd) p (.slice none 0 0)).length = 104) := fun p => cnL_length (hdId_length hd) hh
  have BN : Hid (∀ p, Tryz.prog.built 70 [(0, .agg ((hdId hd).map bV).toArray), (1, .agg (hdL hd).toArray), (2, .int .i64 (nxT (ndM M) hd).height), (3, .int .u64 ((nxT (ndM M) hd).work : Int)), (4, nptr p)] = some (cnL (nxT (ndM M) hd) p (.slice none 0 0)).toArray) := fun p => built_cn _ (nxT (ndM M) hd) p (hdId_length hd) hh rfl
  obtain ⟨oa, qa, hlka, hcaa⟩ := ct_look h ht (hdId hd) (hdId_length hd)
  obtain ⟨ob, qb, hlkb, hcab⟩ := ct_look h ht hd.prev hh.2.1
  have LKA := Lib.hid hlka
  have LKB := Lib.hid hlkb
  have CAA := Lib.hid hcaa
  have CAB := Lib.hid hcab
  obtain ⟨id, hid⟩ : ∃ id, id = hdId hd := ⟨_, rfl⟩
  have IDE := Lib.hid hid
  have LID : Hid (id.length = 32) := by show _ = _; rw [hid]; exact hdId_length hd
  rw [← hid] at RI BN LKA CAA
  have SCI : Hid ((id.map bV).toArray.size = 32) := by show _ = _; rw [List.size_toArray, List.length_map]; exact LID.out
  have OCI : Hid ((id.map bV).toArray.all (·.oneCell') = true) := bV_one _
  have LCI : Hid ((id.map bV).length = 32) := by show _ = _; rw [List.length_map]; exact LID.out
  obtain ⟨ci, hci⟩ : ∃ ci, ci = id.map bV := ⟨_, rfl⟩
  have CIE := Lib.hid hci
  rw [← hci] at RI BN SCI OCI LCI LKA
  have LCP : Hid ((hd.prev.map bV).length = 32) := by show _ = _; rw [List.length_map]; exact hh.2.1
  obtain ⟨cp, hcp⟩ : ∃ cp, cp = hd.prev.map bV := ⟨_, rfl⟩
  rw [← hcp] at CP LCP LKB
  obtain ⟨cs, hcs⟩ : ∃ cs, cs = hdL hd := ⟨_, rfl⟩
  rw [← hcs] at LC CW CP RI BN ⊢
  clear hh hk hid hci hcs hcp h ht hE hlka hlkb hcaa hcab
  go_enter Tryz.func13, Tryz.ntmps13
  go_upto_region 1 with fail
  have f0 := heap_alloc_new w (.cells cs.toArray 28 (0, 0))
  have bb : Below w.heap.size w (w.alloc (.cells cs.toArray 28 (0, 0))) := ((Below.refl w.heap.size w).alloc (by first | exact Nat.le_refl _ | (simp only [World.size_alloc]; omega)) (.cells cs.toArray 28 (0, 0)))
  generalize hq : World.alloc _ _ = w1
  have eq : w.alloc (.cells cs.toArray 28 (0, 0)) = w1 := hq
  rw [eq] at f0 bb
  obtain ⟨g3, hg3⟩ : ∃ g3, g3 = w.heap.size := ⟨_, rfl⟩
  have Gg3 : Hid (w.heap.size ≤ g3) := by show _ ≤ _; omega
  rw [← hg3] at f0 ⊢
  have F3 := Lib.hid f0
  have B1 := Lib.hid bb
  clear f0 bb hq eq hg3
  go_wp2_with ((with_reducible show wpList _ _ _ _ _ _); (refine wpList_load_row rfl 28 (.tmp 3) rfl g3 rfl 28 cs.toArray (0, 0) _ F3.out Tryz.underlying28 rfl (by show _ = some cs.length; rw [LC.out] <;> kernel_rfl) ?_; go_frame))
  refine (RI.out w1 B1.out).mono ?_
  rintro e w2 ⟨rfl, bb⟩
  have F3 := Lib.hid (row_below F3.out bb)
  have B1 := Lib.hid (B1.out.trans (bb.mono B1.out.size))
  clear bb RI
  go_upto_region 2 with ((with_reducible show wpList _ _ _ _ _ _); (refine wpList_store_row rfl 26 (.tmp 5) (.tmp 12) rfl w2.heap.size ci.toArray rfl rfl 26 _ (heap_alloc_new _ _) (by rw [SCI.out]; kernel_rfl) (by rw [SCI.out]; rfl) OCI.out ?_; go_frame))
  obtain ⟨_, f2, f3, f4⟩ := fill_setup (Below.refl w2.heap.size w2) (List.replicate 32 (bV 0)).toArray ci.toArray 26
  generalize hqw3 : World.setRow _ _ _ = w3
  have ew3 : World.setRow (w2.alloc (.cells (List.replicate 32 (bV 0)).toArray 26)) w2.heap.size ci.toArray = w3 := hqw3
  rw [ew3] at f2 f3 f4
  obtain ⟨g5, hg5⟩ : ∃ g5, g5 = w2.heap.size := ⟨_, rfl⟩
  rw [← hg5] at f2 ⊢
  have F5 := Lib.hid f2
  have Ng5 : Hid (w2.heap.size ≤ g5) := by show _ ≤ _; rw [hg5]; exact Nat.le_refl _
  have F3 := Lib.hid (row_below F3.out f4)
  have B1 := Lib.hid (B1.out.trans (f4.mono B1.out.size))
  clear f2 f3 f4 hqw3 ew3 hg5
  refine wp_region_held_drew (S := (fun w' => Below w3.heap.size w3 w')) (by kernel_rfl) (Below.drew (Below.refl _ _)) (fun hHeld => ?_)
  generalize hwd : w3.drew = wd at  hHeld ⊢
  clear hwd
  refine held_take (i := 0) (v := (.pointer (some ⟨b, 0, none⟩))) rfl (by kernel_rfl) (by kernel_rfl) (by kernel_rfl) (fun _ _ _ h => h) (Or.inl ⟨by rfl, fun w' _ => by kernel_rfl⟩) hHeld ?_
  go_frame
  refine held_take (i := 1) (v := (.pointer (some ⟨b, 0, none⟩))) rfl (by kernel_rfl) (by kernel_rfl) (by kernel_rfl) (fun _ _ _ h => h) (Or.inl ⟨by rfl, fun w' _ => by kernel_rfl⟩) hHeld ?_
  go_frame
  refine held_take (i := 2) (v := (.pointer (some ⟨b, 32, none⟩))) rfl (by kernel_rfl) (by kernel_rfl) (by kernel_rfl) (fun _ _ _ h => h) (Or.inl ⟨by rfl, fun w' _ => by kernel_rfl⟩) hHeld ?_
  go_frame
  refine held_take (i := 3) (v := (.map (some mb))) rfl (by kernel_rfl) (by kernel_rfl) (by kernel_rfl) (fun _ _ _ h => h) (yieldsIf_load_one (by rfl) 71 (.tmp 16) rfl b (32) rfl _ _ (fun w' hw' => (HT.out.below (B1.out.trans (hw'.mono B1.out.size))).mcell LS.out) Tryz.underlying71 rfl) hHeld ?_
  go_frame
  refine held_take (i := 4) (v := (.agg ci.toArray)) rfl (by kernel_rfl) (by kernel_rfl) (by kernel_rfl) (fun _ _ _ h => h) (yieldsIf_load_row (by rfl) 26 (.tmp 5) rfl g5 rfl 26 ci.toArray (0, 0) _ (fun w' hw' => row_below F5.out hw') Tryz.underlying26 rfl (by show _ = some ci.length; rw [LCI.out]; kernel_rfl)) hHeld ?_
  go_frame
  refine held_take (i := 5) (v := (.tuple #[oa, .bool qa])) rfl (by kernel_rfl) (by kernel_rfl) (by kernel_rfl) (fun _ _ _ h => h) (yieldsIf_lookup (by rfl) 71 (.tmp 17) (.tmp 18) true rfl _ _ _ rfl rfl (fun w' hw' => LKA.out w' (B1.out.trans (hw'.mono B1.out.size)))) hHeld ?_
  go_frame
  refine held_take (i := 6) (v := (.tuple #[oa, .bool qa])) rfl (by kernel_rfl) (by kernel_rfl) (by kernel_rfl) (fun _ _ _ h => h) (Or.inl ⟨by rfl, fun w' _ => by kernel_rfl⟩) hHeld ?_
  go_frame
  refine held_take (i := 7) (v := oa) rfl (by kernel_rfl) (by kernel_rfl) (by kernel_rfl) (fun _ _ _ h => h) (Or.inl ⟨by rfl, fun w' _ => by kernel_rfl⟩) hHeld ?_
  go_frame
  refine held_take (i := 8) (v := (.bool qa)) rfl (by kernel_rfl) (by kernel_rfl) (by kernel_rfl) (fun _ _ _ h => h) (Or.inl ⟨by rfl, fun w' _ => by kernel_rfl⟩) hHeld ?_
  go_frame
  refine held_take (i := 9) (v := oa) rfl (by kernel_rfl) (by kernel_rfl) (by kernel_rfl) (fun _ _ _ h => h) (Or.inl ⟨by rfl, fun w' _ => by kernel_rfl⟩) hHeld ?_
  go_frame
  refine held_take (i := 10) (v := (.bool qa)) rfl (by kernel_rfl) (by kernel_rfl) (by kernel_rfl) (fun _ _ _ h => h) (Or.inl ⟨by rfl, fun w' _ => by kernel_rfl⟩) hHeld ?_
  go_frame
  refine wpAnyH_done (by kernel_rfl) ?_ _
  obtain ⟨v9, hv9⟩ : ∃ v9, v9 = wd := ⟨_, rfl⟩
  rw [← hv9] at  hHeld ⊢
  clear hv9
  have F3 := Lib.hid (row_below F3.out hHeld)
  have F5 := Lib.hid (row_below F5.out hHeld)
  have B2 := Lib.hid (B1.out.trans (hHeld.mono B1.out.size))
  clear hHeld LKA B1
  have ck := (CEE.out.below B2.out).known
  rcases CAA.out with ⟨h1, rfl, rfl⟩ | ⟨k, c, h1, h2, h3, rfl, rfl⟩
  case inr =>
    have AE : Hid (addE (ndM M) hd = 109) := by show _ = _; unfold addE; rw [← IDE.out, if_pos (by omega)]
    clear h1 h2 h3
    go_wp2_with fail
    go_ret
    exact ⟨by rw [AE.out]; rfl, fun _ => B2.out, fun e => absurd e (by rw [AE.out]; decide)⟩
  case inl =>
    have N1 := Lib.hid h1
    clear h1 ck
    go_upto_region 5 with fail
    refine wp_region_held_drew (S := (fun w' => Below v9.heap.size v9 w')) (by kernel_rfl) (Below.drew (Below.refl _ _)) (fun hHeld => ?_)
    generalize hwd : v9.drew = wd at  hHeld ⊢
    clear hwd
    refine held_take (i := 0) (v := (.pointer (some ⟨b, 0, none⟩))) rfl (by kernel_rfl) (by kernel_rfl) (by kernel_rfl) (fun _ _ _ h => h) (Or.inl ⟨by rfl, fun w' _ => by kernel_rfl⟩) hHeld ?_
    go_frame
    refine held_take (i := 1) (v := (.pointer (some ⟨b, 0, none⟩))) rfl (by kernel_rfl) (by kernel_rfl) (by kernel_rfl) (fun _ _ _ h => h) (Or.inl ⟨by rfl, fun w' _ => by kernel_rfl⟩) hHeld ?_
    go_frame
    refine held_take (i := 2) (v := (.pointer (some ⟨b, 32, none⟩))) rfl (by kernel_rfl) (by kernel_rfl) (by kernel_rfl) (fun _ _ _ h => h) (Or.inl ⟨by rfl, fun w' _ => by kernel_rfl⟩) hHeld ?_
    go_frame
    refine held_take (i := 3) (v := (.map (some mb))) rfl (by kernel_rfl) (by kernel_rfl) (by kernel_rfl) (fun _ _ _ h => h) (yieldsIf_load_one (by rfl) 71 (.tmp 27) rfl b (32) rfl _ _ (fun w' hw' => (HT.out.below (B2.out.trans (hw'.mono B2.out.size))).mcell LS.out) Tryz.underlying71 rfl) hHeld ?_
    go_frame
    refine held_take (i := 4) (v := (.pointer (some ⟨g3, 1, none⟩))) rfl (by kernel_rfl) (by kernel_rfl) (by kernel_rfl) (fun _ _ _ h => h) (Or.inl ⟨by rfl, fun w' _ => by kernel_rfl⟩) hHeld ?_
    go_frame
    refine held_take (i := 5) (v := (.agg cp.toArray)) rfl (by kernel_rfl) (by kernel_rfl) (by kernel_rfl) (fun _ _ _ h => h) (Sha.yieldsIf_load_mid (by rfl) 26 (.tmp 29) rfl g3 (1) rfl cp _ (fun w' hw' => CP.out _ _ (row_below F3.out hw')) Tryz.underlying26 rfl (by rw [LCP.out]; kernel_rfl)) hHeld ?_
    go_frame
    refine held_take (i := 6) (v := (.tuple #[ob, .bool qb])) rfl (by kernel_rfl) (by kernel_rfl) (by kernel_rfl) (fun _ _ _ h => h) (yieldsIf_lookup (by rfl) 71 (.tmp 28) (.tmp 30) true rfl _ _ _ rfl rfl (fun w' hw' => LKB.out w' (B2.out.trans (hw'.mono B2.out.size)))) hHeld ?_
    go_frame
    refine held_take (i := 7) (v := (.tuple #[ob, .bool qb])) rfl (by kernel_rfl) (by kernel_rfl) (by kernel_rfl) (fun _ _ _ h => h) (Or.inl ⟨by rfl, fun w' _ => by kernel_rfl⟩) hHeld ?_
    go_frame
    refine held_take (i := 8) (v := ob) rfl (by kernel_rfl) (by kernel_rfl) (by kernel_rfl) (fun _ _ _ h => h) (Or.inl ⟨by rfl, fun w' _ => by kernel_rfl⟩) hHeld ?_
    go_frame
    refine held_take (i := 9) (v := (.bool qb)) rfl (by kernel_rfl) (by kernel_rfl) (by kernel_rfl) (fun _ _ _ h => h) (Or.inl ⟨by rfl, fun w' _ => by kernel_rfl⟩) hHeld ?_
    go_frame
    refine held_take (i := 10) (v := ob) rfl (by kernel_rfl) (by kernel_rfl) (by kernel_rfl) (fun _ _ _ h => h) (Or.inl ⟨by rfl, fun w' _ => by kernel_rfl⟩) hHeld ?_
    go_frame
    refine held_take (i := 11) (v := (.bool qb)) rfl (by kernel_rfl) (by kernel_rfl) (by kernel_rfl) (fun _ _ _ h => h) (Or.inl ⟨by rfl, fun w' _ => by kernel_rfl⟩) hHeld ?_
    go_frame
    refine wpAnyH_done (by kernel_rfl) ?_ _
    obtain ⟨v8, hv8⟩ : ∃ v8, v8 = wd := ⟨_, rfl⟩
    rw [← hv8] at  hHeld ⊢
    clear hv8
    have F3 := Lib.hid (row_below F3.out hHeld)
    have F5 := Lib.hid (row_below F5.out hHeld)
    have B3 := Lib.hid (B2.out.trans (hHeld.mono B2.out.size))
    clear hHeld LKB B2
    have ck := (CEE.out.below B3.out).parent
    rcases CAB.out with ⟨h1, rfl, rfl⟩ | ⟨k, c, h1, h2, h3, rfl, rfl⟩
    case inl =>
      have AE : Hid (addE (ndM M) hd = 110) := by show _ = _; unfold addE; rw [← IDE.out, N1.out, if_neg (by decide), h1, if_pos (by decide)]
      clear h1
      go_wp2_with fail
      go_ret
      exact ⟨by rw [AE.out]; rfl, fun _ => B3.out, fun e => absurd e (by rw [AE.out]; decide)⟩
    case inr =>
      clear ck
      have N2 := Lib.hid h1
      have HC := Lib.hid h2
      have HTB := Lib.hid (HT.out.below B3.out)
      have hq := fun ty => gm_len mty_nodes HTB.out.mp ty
      have c32 := HTB.out.mcell LS.out
      have ck := (CEE.out.below B3.out).full
      have EL : (idsM M).length = (ndM M).length := by unfold idsM ndM; rw [List.length_map, List.length_map]
      rw [EL] at hq
      obtain ⟨n, hn⟩ : ∃ n, n = (ndM M).length := ⟨_, rfl⟩
      rw [← hn] at hq
      have LN := Lib.hid hn
      clear EL hn h1 h2 h3
      by_cases hfull : 4096 ≤ n
      · have AE : Hid (addE (ndM M) hd = 121) := by show _ = _; unfold addE; rw [← IDE.out, N1.out, if_neg (by decide), N2.out, if_neg (by omega), if_pos (by rw [← LN.out]; exact hfull)]
        have q1 : (4096 : Int) ≤ (n : Int) := by omega
        go_wp2_with fail
        go_ret
        exact ⟨by rw [AE.out]; rfl, fun _ => B3.out, fun e => absurd e (by rw [AE.out]; decide)⟩
      · have AE : Hid (addE (ndM M) hd = 0) := by show _ = _; unfold addE; rw [← IDE.out, N1.out, if_neg (by decide), N2.out, if_neg (by omega), if_neg (by rw [← LN.out]; exact hfull)]
        have q1 : (n : Int) < 4096 := by omega
        have QN := Lib.hid q1
        go_upto_region 10 with fail
        clear hq c32 ck hfull q1
        have NXH : Hid ((nxT (ndM M) hd).height = c.nd.height + 1) := by show _ = _; unfold nxT; rw [N2.out]; simp only [getD_int (ndM_at HC.out)]
        have NXW : Hid ((nxT (ndM M) hd).work = (c.nd.work + hd.work) % 18446744073709551616) := by show _ = _; unfold nxT; rw [N2.out]; simp only [getD_int (ndM_at HC.out)]
        have NXP : Hid ((nxT (ndM M) hd).parent = (k : Int)) := N2.out
        have NXI : Hid ((nxT (ndM M) hd).id = id) := IDE.out.symm
        have XH : Hid (0 ≤ c.nd.height ∧ c.nd.height ≤ 4096 ∧ c.nd.work ≤ 18446744073709551615) := by
          have ok := TR.out.ok _ (List.mem_of_getElem? (ndM_at HC.out))
          exact ⟨ok.2.2.2.2.1, ok.2.2.2.2.2.1, ok.2.2.2.2.2.2⟩
        have CC : Hid (∀ U, Below v8.heap.size v8 U → U.cell? ⟨c.ad, 100, none⟩ = some (.int .i64 c.nd.height) ∧ U.cell? ⟨c.ad, 101, none⟩ = some (.int .u64 (c.nd.work : Int)) ∧ U.cell? ⟨c.ad, 102, none⟩ = some (nptr (cnP M c.nd.parent)) ∧ U.cell? ⟨c.ad, 103, none⟩ = some c.kids) := fun U hU => HT.out.cells TR.out HC.out (B3.out.trans (hU.mono B3.out.size))
        have BN := Lib.hid (BN.out (some c.ad))
        have LXN := Lib.hid (LXN.out (some c.ad))
        obtain ⟨nx, hnx⟩ : ∃ nx, nx = nxT (ndM M) hd := ⟨_, rfl⟩
        rw [← hnx] at BN LXN NXH NXW NXP NXI
        have NXE := Lib.hid hnx
        rw [NXH.out, NXW.out] at BN
        obtain ⟨wk, hwk⟩ : ∃ wk, wk = (c.nd.work + hd.work) % 18446744073709551616 := ⟨_, rfl⟩
        rw [← hwk] at BN
        have WKE := Lib.hid hwk
        obtain ⟨cx, hcx⟩ : ∃ cx, cx = cnL nx (some c.ad) (.slice none 0 0) := ⟨_, rfl⟩
        rw [← hcx] at BN LXN
        have CXE := Lib.hid hcx
        have BN2 : Hid (Tryz.prog.built 70 [(0, .agg ci.toArray), (1, .agg cs.toArray), (2, .int .i64 (c.nd.height + 1)), (3, .int .u64 (wk : Int)), (4, .pointer (some ⟨c.ad, 0, none⟩))] = some cx.toArray) := BN.out
        obtain ⟨H, hH⟩ : ∃ H, H = c.nd.height := ⟨_, rfl⟩
        obtain ⟨wp, hwp⟩ : ∃ wp, wp = c.nd.work := ⟨_, rfl⟩
        rw [← hH, ← hwp] at CC XH
        rw [← hH] at BN2 NXH
        rw [← hwp] at WKE
        clear hnx hwk hcx hH hwp BN
        refine wp_region_held_drew (S := (fun w' => Below v8.heap.size v8 w')) (by kernel_rfl) (Below.drew (Below.refl _ _)) (fun hHeld => ?_)
        generalize hwd : v8.drew = wd at  hHeld ⊢
        clear hwd
        refine held_take (i := 0) (v := (.agg ci.toArray)) rfl (by kernel_rfl) (by kernel_rfl) (by kernel_rfl) (fun _ _ _ h => h) (yieldsIf_load_row (by rfl) 26 (.tmp 5) rfl g5 rfl 26 ci.toArray (0, 0) _ (fun w' hw' => row_below F5.out hw') Tryz.underlying26 rfl (by show _ = some ci.length; rw [LCI.out]; kernel_rfl)) hHeld ?_
        go_frame
        refine held_take (i := 1) (v := (.agg cs.toArray)) rfl (by kernel_rfl) (by kernel_rfl) (by kernel_rfl) (fun _ _ _ h => h) (yieldsIf_load_row (by rfl) 28 (.tmp 3) rfl g3 rfl 28 cs.toArray (0, 0) _ (fun w' hw' => row_below F3.out hw') Tryz.underlying28 rfl (by show _ = some cs.length; rw [LC.out]; kernel_rfl)) hHeld ?_
        go_frame
        refine held_take (i := 2) (v := (.pointer (some ⟨c.ad, 0, none⟩))) rfl (by kernel_rfl) (by kernel_rfl) (by kernel_rfl) (fun _ _ _ h => h) (Or.inl ⟨by rfl, fun w' _ => by kernel_rfl⟩) hHeld ?_
        go_frame
        refine held_take (i := 3) (v := (.pointer (some ⟨c.ad, 0, none⟩))) rfl (by kernel_rfl) (by kernel_rfl) (by kernel_rfl) (fun _ _ _ h => h) (Or.inl ⟨by rfl, fun w' _ => by kernel_rfl⟩) hHeld ?_
        go_frame
        refine held_take (i := 4) (v := (.pointer (some ⟨c.ad, 100, none⟩))) rfl (by kernel_rfl) (by kernel_rfl) (by kernel_rfl) (fun _ _ _ h => h) (Or.inl ⟨by rfl, fun w' _ => by kernel_rfl⟩) hHeld ?_
        go_frame
        refine held_take (i := 5) (v := (.int .i64 H)) rfl (by kernel_rfl) (by kernel_rfl) (by kernel_rfl) (fun _ _ _ h => h) (yieldsIf_load_one (by rfl) 3 (.tmp 48) rfl c.ad (100) rfl _ _ (fun w' hw' => (CC.out w' hw').1) Tryz.underlying3 rfl) hHeld ?_
        go_frame
        refine held_take (i := 6) (v := (.int .i64 (H + 1))) rfl (by kernel_rfl) (by kernel_rfl) (by kernel_rfl) (fun _ _ _ h => h) (Or.inl ⟨by rfl, fun w' _ => by go_simp; have := XH.out; rw [IntKind.wrap_i64]; omega⟩) hHeld ?_
        go_frame
        refine held_take (i := 7) (v := (.pointer (some ⟨c.ad, 0, none⟩))) rfl (by kernel_rfl) (by kernel_rfl) (by kernel_rfl) (fun _ _ _ h => h) (Or.inl ⟨by rfl, fun w' _ => by kernel_rfl⟩) hHeld ?_
        go_frame
        refine held_take (i := 8) (v := (.pointer (some ⟨c.ad, 0, none⟩))) rfl (by kernel_rfl) (by kernel_rfl) (by kernel_rfl) (fun _ _ _ h => h) (Or.inl ⟨by rfl, fun w' _ => by kernel_rfl⟩) hHeld ?_
        go_frame
        refine held_take (i := 9) (v := (.pointer (some ⟨c.ad, 101, none⟩))) rfl (by kernel_rfl) (by kernel_rfl) (by kernel_rfl) (fun _ _ _ h => h) (Or.inl ⟨by rfl, fun w' _ => by kernel_rfl⟩) hHeld ?_
        go_frame
        refine held_take (i := 10) (v := (.int .u64 (wp : Int))) rfl (by kernel_rfl) (by kernel_rfl) (by kernel_rfl) (fun _ _ _ h => h) (yieldsIf_load_one (by rfl) 65 (.tmp 53) rfl c.ad (101) rfl _ _ (fun w' hw' => (CC.out w' hw').2.1) Tryz.underlying65 rfl) hHeld ?_
        go_frame
        refine held_take (i := 11) (v := (.pointer (some ⟨g3, 66, none⟩))) rfl (by kernel_rfl) (by kernel_rfl) (by kernel_rfl) (fun _ _ _ h => h) (Or.inl ⟨by rfl, fun w' _ => by kernel_rfl⟩) hHeld ?_
        go_frame
        refine held_take (i := 12) (v := (.int .u32 (hd.work : Int))) rfl (by kernel_rfl) (by kernel_rfl) (by kernel_rfl) (fun _ _ _ h => h) (yieldsIf_load_one (by rfl) 24 (.tmp 55) rfl g3 (66) rfl _ _ (fun w' hw' => CW.out _ _ (row_below F3.out hw')) Tryz.underlying24 rfl) hHeld ?_
        go_frame
        refine held_take (i := 13) (v := (.int .u64 (hd.work : Int))) rfl (by kernel_rfl) (by kernel_rfl) (by kernel_rfl) (fun _ _ _ h => h) (Or.inl ⟨by rfl, fun w' _ => by go_simp; have := HW.out; rw [IntKind.wrap_u64]; omega⟩) hHeld ?_
        go_frame
        refine held_take (i := 14) (v := (.int .u64 (wk : Int))) rfl (by kernel_rfl) (by kernel_rfl) (by kernel_rfl) (fun _ _ _ h => h) (Or.inl ⟨by rfl, fun w' _ => by go_simp; rw [WKE.out, IntKind.wrap_u64]; omega⟩) hHeld ?_
        go_frame
        refine held_take (i := 15) (v := (.pointer (some ⟨c.ad, 0, none⟩))) rfl (by kernel_rfl) (by kernel_rfl) (by kernel_rfl) (fun _ _ _ h => h) (Or.inl ⟨by rfl, fun w' _ => by kernel_rfl⟩) hHeld ?_
        go_frame
        refine held_take (i := 16) (v := (.agg cx.toArray)) rfl (by kernel_rfl) (by kernel_rfl) (by kernel_rfl) (fun _ _ _ h => h) (yieldsIf_build (by rfl) 70 _ rfl [(0, .agg ci.toArray), (1, .agg cs.toArray), (2, .int .i64 (H + 1)), (3, .int .u64 (wk : Int)), (4, .pointer (some ⟨c.ad, 0, none⟩))] (by kernel_rfl) _ BN2.out) hHeld ?_
        go_frame
        refine wpAnyH_ready (rs := [17]) (by kernel_rfl) (by simp) (held_cons rfl (fun K hK => ?_) AllReadyH.nil)
        go_simp
        have nf := heap_alloc_new wd (.cells (cx).toArray 70 (0, 0))
        have bb := (Below.refl wd.heap.size wd).alloc (Nat.le_refl _) (.cells (cx).toArray 70 (0, 0))
        obtain ⟨gv1, hgv1⟩ : ∃ g, g = wd.heap.size := ⟨_, rfl⟩
        have GNF : Hid (v8.heap.size ≤ gv1) := by show _ ≤ _; rw [hgv1]; exact hHeld.size
        generalize hqv1 : World.alloc _ _ = v1
        have ev1 : wd.alloc (.cells (cx).toArray 70 (0, 0)) = v1 := hqv1
        rw [ev1] at nf bb
        rw [← hgv1] at nf ⊢
        have NF := Lib.hid nf
        have hv1 := hHeld.trans (bb.mono hHeld.size)
        clear nf bb hqv1 ev1 hgv1 hHeld
        refine hK.out _ _ hv1 (fun hHeld => ?_)
        clear hK K hv1
        refine held_take (i := 18) (v := (.pointer (some ⟨gv1, 0, none⟩))) rfl (by kernel_rfl) (by kernel_rfl) (by kernel_rfl) (fun _ _ _ h => h) (Or.inl ⟨by rfl, fun w' _ => by kernel_rfl⟩) hHeld ?_
        go_frame
        refine wpAnyH_done (by kernel_rfl) ?_ _
        obtain ⟨v7, hv7⟩ : ∃ v7, v7 = v1 := ⟨_, rfl⟩
        rw [← hv7] at NF hHeld ⊢
        clear hv7
        have F5 := Lib.hid (row_below F5.out hHeld)
        have B4 := Lib.hid (B3.out.trans (hHeld.mono B3.out.size))
        have c103 := (CC.out v7 hHeld).2.2.2
        have GN : Hid (w.heap.size ≤ gv1) := by have := GNF.out; have := B3.out.size; show _ ≤ _; omega
        clear hHeld CC F3 B3
        have BS7 : Hid (base ≤ v7.heap.size) := Nat.le_trans HBS.out B4.out.size
        have HT7 := Lib.hid (HT.out.below B4.out)
        have RK := Lib.hid (HT7.out.kid k c HC.out)
        have NOD := Lib.hid (HT7.out.node k c HC.out)
        have NE5 : Hid (c.ad ≠ g5) := fun e => by
          have q := NOD.out
          rw [e, F5.out] at q
          injection q with q
          injection q with _ q _
          exact absurd q (by decide)
        have NEG : Hid (c.ad ≠ gv1) := by
          have h1 := (Array.getElem?_eq_some_iff.1 (HTB.out.node k c HC.out)).1
          have := GNF.out
          show _ ≠ _
          omega
        have NEM : Hid (mb ≠ c.ad) := fun e => HT.out.mp.ne (HT.out.node k c HC.out) e.symm
        have NG : Hid (putG (idsM M) id (some gv1) = idsM M ++ [(id, some gv1)]) := by
          have h1 : ∀ x ∈ ndM M, x.id ≠ id := by
            rcases findT_cases (ndM M) id with ⟨_, h⟩ | ⟨q, x, h, _⟩
            · exact h
            · have := N1.out; omega
          show _ = _
          unfold putG
          rw [getG_ids_none h1]
          rfl
        obtain ⟨A, hA⟩ : ∃ A, A = c.nd.id.map bV ++ (hdL c.nd.h ++ [.int .i64 c.nd.height, .int .u64 (c.nd.work : Int), nptr (cnP M c.nd.parent)]) := ⟨_, rfl⟩
        have CL : Hid (∀ v, (A ++ [v] ++ []).toArray = (cnL c.nd (cnP M c.nd.parent) v).toArray) := fun v => by rw [hA]; unfold cnL; simp
        have PL : Hid (A.length = 103) := by
          have ok := TR.out.ok _ (List.mem_of_getElem? (ndM_at HC.out))
          show _ = _
          rw [hA, List.length_append, List.length_append, List.length_map, ok.1, hdL_length ok.2.1]
          rfl
        have NODX : Hid (v7.heap[c.ad]? = some (.cells (A ++ [c.kids] ++ []).toArray 70 (0, 0))) := by show _ = _; rw [CL.out]; exact NOD.out
        obtain ⟨L, hL⟩ : ∃ L, L = kidsM M k := ⟨_, rfl⟩
        have LE := Lib.hid hL
        rw [← hL] at RK
        have DL : Hid (L.length ≤ 4096) := by
          show _ ≤ _
          rw [hL]
          unfold kidsM kidsI
          rw [List.length_map]
          refine Nat.le_trans (List.length_filter_le _ _) ?_
          rw [List.length_range, ← LN.out]
          have := QN.out
          omega
        clear hL hA
        go_upto_region 12 with (first | ((with_reducible show wpList _ _ _ _ _ _); (refine wpList_store_part rfl 68 (.tmp 71) (.tmp 69) rfl c.ad 103 A [c.kids] [] [nv] 70 nv rfl rfl (cells_one VO.out) PL.out rfl NOD2.out (by kernel_rfl) (one_mem VO.out) ?_; intro w9 q1 q2; have NOD3 : Hid (w9.heap[c.ad]? = some (.cells (cnL c.nd (cnP M c.nd.parent) nv).toArray 70 (0, 0))) := (by show _ = _; rw [q1, CL.out nv]); have RK3 := Lib.hid (RK2.out.kept q2 (.inr (own_ne' RK2.out.1 NOD2.out (by decide)))); have NF3 := Lib.hid (row_far NF2.out q2 (fun e => NEG.out (Option.some.inj e))); have KP3 := Lib.hid (KP2.out.trans (Kps.grown q2 fun j _ hj e => hj.1 (Option.some.inj e))); have F53 := Lib.hid (row_far F52.out q2 (fun e => NE5.out (Option.some.inj e))); clear q1 q2; go_frame)) | (at_builtin; refine wpList_append_own_at _ rfl _ _ 68 rfl base 67 i0 (.pointer none) 1 8 Tryz.underlying68 hi hz0 hz1 hz2 (by kernel_rfl) (by decide) c.kids _ L.flatten rfl (RK.out.1.alloc _) ⟨v7.heap.size, 0, none⟩ 1 1 [(.pointer (some ⟨gv1, 0, none⟩))] rfl rfl (cell_one_new _ _ _) (fun u hu => by rcases List.mem_singleton.1 hu with rfl; rfl) (by have := DL.out; unfold maxLen; omega) (by have := DL.out; omega) (by simp only [World.size_alloc]; have := BS7.out; omega) ?_; intro nv w8 q1 q2 _ q4; have VO := Lib.hid (own_one q1); have RK2 : Hid (RwOwn 1 67 base w8 nv (L ++ [[(.pointer (some ⟨gv1, 0, none⟩))]])) := RwOwn.push RK.out.2 rfl q1; have q0 := (Below.refl v7.heap.size v7).alloc (Nat.le_refl _) (.cells #[(.pointer (some ⟨gv1, 0, none⟩))] 67); have NOD2 := Lib.hid (row_far (row_below NODX.out q0) q2 (own_ne' RK.out.1 NOD.out (by decide))); have NF2 := Lib.hid (row_far (row_below NF.out q0) q2 (own_ne' RK.out.1 NF.out (by decide))); have F52 := Lib.hid (row_far (row_below F5.out q0) q2 (own_ne' RK.out.1 F5.out (by decide))); have KP2 := Lib.hid (((Kps.new (F := fun j => j ≠ c.ad ∧ c.kids.ownBlock ≠ some j) B4.out).trans (Kps.new q0)).trans (Kps.grown q2 fun j _ hj e => hj.2 e.symm)); have Q4 := Lib.hid q4; clear q1 q2 q4 q0; go_frame))
        have OWB : Hid (nv.ownBlock = c.kids.ownBlock ∨ ∃ q, nv.ownBlock = some q ∧ w.heap.size ≤ q) := by
          rcases Q4.out with e | e
          · exact .inl e
          · exact .inr ⟨_, e, by simp only [World.size_alloc]; have := B4.out.size; omega⟩
        have MP9 := Lib.hid (HT.out.mp.kps KP3.out ⟨NEM.out, own_nemap HT.out.mp (HT.out.kid k c HC.out).1⟩)
        have BX9 := Lib.hid (row_kps HT.out.box KP3.out ⟨fun e => by
          have q := HT.out.node k c HC.out
          rw [← e, HT.out.box] at q
          injection q with q
          injection q with _ q _
          exact absurd q (by decide), own_ne' (HT.out.kid k c HC.out).1 HT.out.box (by decide)⟩)
        have MC9 : Hid (w9.cell? ⟨b, 32, none⟩ = some (.map (some mb))) := by
          show _ = _
          rw [cell_of_row _ _ _ _ _ _ BX9.out, List.getElem?_toArray, List.getElem?_append_right (by rw [List.length_map, LS.out]; exact Nat.le_refl _), List.length_map, LS.out]
          rfl
        clear Q4 RK RK2 NOD NODX NOD2 NF NF2 F5 F52 KP2 c103 BX9 HT7 HTB NE5 CL PL B4
        refine wp_region_end (fun w' => Below w9.heap.size w9 w') [6] (by kernel_rfl) (Below.drew (Below.refl _ _)) (fun hHeld => ?_)
        generalize hwd : w9.drew = wd at  hHeld ⊢
        clear hwd
        refine end_take (i := 0) (v := (.pointer (some ⟨b, 0, none⟩))) rfl (by kernel_rfl) (by kernel_rfl) (by kernel_rfl) (by kernel_rfl) (fun _ _ _ h => h) (Or.inl ⟨by rfl, fun w' _ => by kernel_rfl⟩) hHeld ?_
        go_frame
        refine end_take (i := 1) (v := (.pointer (some ⟨b, 0, none⟩))) rfl (by kernel_rfl) (by kernel_rfl) (by kernel_rfl) (by kernel_rfl) (fun _ _ _ h => h) (Or.inl ⟨by rfl, fun w' _ => by kernel_rfl⟩) hHeld ?_
        go_frame
        refine end_take (i := 2) (v := (.pointer (some ⟨b, 32, none⟩))) rfl (by kernel_rfl) (by kernel_rfl) (by kernel_rfl) (by kernel_rfl) (fun _ _ _ h => h) (Or.inl ⟨by rfl, fun w' _ => by kernel_rfl⟩) hHeld ?_
        go_frame
        refine end_take (i := 3) (v := (.map (some mb))) rfl (by kernel_rfl) (by kernel_rfl) (by kernel_rfl) (by kernel_rfl) (fun _ _ _ h => h) (yieldsIf_load_one (by rfl) 71 (.tmp 74) rfl b (32) rfl _ _ (fun w' hw' => cell_below MC9.out hw') Tryz.underlying71 rfl) hHeld ?_
        go_frame
        refine end_take (i := 4) (v := (.agg ci.toArray)) rfl (by kernel_rfl) (by kernel_rfl) (by kernel_rfl) (by kernel_rfl) (fun _ _ _ h => h) (yieldsIf_load_row (by rfl) 26 (.tmp 5) rfl g5 rfl 26 ci.toArray (0, 0) _ (fun w' hw' => row_below F53.out hw') Tryz.underlying26 rfl (by show _ = some ci.length; rw [LCI.out]; kernel_rfl)) hHeld ?_
        go_frame
        refine end_take (i := 5) (v := (.pointer (some ⟨gv1, 0, none⟩))) rfl (by kernel_rfl) (by kernel_rfl) (by kernel_rfl) (by kernel_rfl) (fun _ _ _ h => h) (Or.inl ⟨by rfl, fun w' _ => by kernel_rfl⟩) hHeld ?_
        go_frame
        refine end_last (i := 6) (by kernel_rfl) (by kernel_rfl) rfl (fun K hK => ?_)
        rw [if_pos (by rfl)]
        refine wp_put_gm mty_nodes (.tmp 75) (.tmp 76) (.tmp 77) rfl id LID.out (some gv1) rfl (by show Value.agg ci.toArray = Sha.hK id; rw [CIE.out]; rfl) rfl (MP9.out.below hHeld) ?_
        intro v1 q1 q2
        rw [NG.out] at q1
        have KPF : Hid (Kps (fun j => j ≠ mb ∧ j ≠ c.ad ∧ c.kids.ownBlock ≠ some j) w v1) := ((KP3.out.mono fun _ _ h => h.2).trans (Kps.new hHeld)).trans (Kps.grown q2 fun j _ hj e => hj.1 (Option.some.inj e))
        have CTP := Lib.hid (HT.out.push TR.out.down HC.out NXP.out KPF.out GN.out HBS.out (row_far (row_below NOD3.out hHeld) q2 (fun e => NEM.out (Option.some.inj e))) (by rw [← LE.out]; exact (RK3.out.keep hHeld).kept q2 (.inr (own_nemap MP9.out RK3.out.1))) (by have h := row_far (row_below NF3.out hHeld) q2 (fun e => (MP9.out.ne NF3.out) (Option.some.inj e).symm); rw [CXE.out] at h; exact h) OWB.out (by rw [NXI.out]; exact q1))
        clear q1 q2 hHeld
        go_frame
        refine hK.out _ _ ?_
        clear hK K
        refine end_done (by kernel_rfl) ?_ _
        go_wp2_with fail
        go_ret
        exact ⟨by rw [AE.out]; rfl, fun e => absurd AE.out e, fun _ => ⟨_, by rw [pushM_nd, NXE.out], CTP.out, KPF.out.mono fun j _ hj => ⟨hj.1, hj.2 c (List.mem_of_getElem? HC.out)⟩⟩⟩
end Go.Proofs.YtdhcjaflbfpalaaGreatDoor.Sha

/-
  What the library's sort.Slice stands on, its comparison being free to lay blocks: the row as a state, the comparison, the exchange. No conditions.
-/
namespace Go.Proofs.YtdhcjaflbfpalaaGreatDoor.Sha
open Go Go.RowKit
open Go.Sort (swp insInner insOuter)
/-- The two functions of a lessSwap. -/
def soL (lf : Nat) (lb : Array Value) (sf : Nat) (sb : Array Value) : List Value := [.func (.func lf) #[] lb, .func (.func sf) #[] sb]
structure SoE (α : Type) [Inhabited α] (lt : α → α → Bool) (n lf : Nat) (lb : Array Value) (sf : Nat) (sb : Array Value) where
  I : Array α → World → Prop
  R : World → World → Prop
  size : ∀ d W, I d W → d.size = n
  below : ∀ d W W', I d W → Below W.heap.size W W' → I d W'
  rb : ∀ W W', Below W.heap.size W W' → R W W'
  rt : ∀ a b c, R a b → R b c → R a c
  rbox : ∀ (W W' : World) (b : Nat), R W W' → W.heap[b]? = some (.cells (soL lf lb sf sb).toArray 140 (0, 0)) → W'.heap[b]? = some (.cells (soL lf lb sf sb).toArray 140 (0, 0))
  eg : ∀ args W, (callFunc lf args).run Tryz.prog W = .ok (.enter lf args) W
  less : ∀ d W i j, I d W → i < n → j < n → Calls Tryz.prog lf (#[.int .i64 (i : Int), .int .i64 (j : Int)] ++ lb) W fun e w' => e = .returned (.bool (lt d[i]! d[j]!)) ∧ Below W.heap.size W w'
  swap : ∀ d W i j, I d W → i < n → j < n → ∃ w', (callFunc sf (#[.int .i64 (i : Int), .int .i64 (j : Int)] ++ sb)).run Tryz.prog W = .ok (.value (.tuple #[])) w' ∧ I (swp d i j) w' ∧ R W w'
  rx : ∀ (W W' : World) (b : Nat) (v : Value), R W W' → W.heap[b]? = some (.cells #[v] 167 (0, 0)) → W'.heap[b]? = some (.cells #[v] 167 (0, 0))
  rand : ∀ (d' d : Array α) (w W W' : World) (s : Nat), I d' w → I d W → R w W → w.heap.size ≤ s → W.grownBy W' (some s) → I d W' ∧ R w W'
  le : n ≤ 1048576
section
variable {lf sf : Nat} {lb sb : Array Value}
theorem so_c0 {W : World} {b : Nat} (h : W.heap[b]? = some (.cells (soL lf lb sf sb).toArray 140 (0, 0))) : W.cell? ⟨b, 0, none⟩ = some (.func (.func lf) #[] lb) := by rw [cell_of_row _ _ _ _ _ _ h]; rfl
theorem so_c1 {W : World} {b : Nat} (h : W.heap[b]? = some (.cells (soL lf lb sf sb).toArray 140 (0, 0))) : W.cell? ⟨b, 1, none⟩ = some (.func (.func sf) #[] sb) := by rw [cell_of_row _ _ _ _ _ _ h]; rfl
end
end Go.Proofs.YtdhcjaflbfpalaaGreatDoor.Sha

/-
  The library's insertion sort over a row, its comparison being free to lay blocks. Conditions: those of SoE.
-/
namespace Go.Proofs.YtdhcjaflbfpalaaGreatDoor.Sha
open Go Go.RowKit
open Go.Sort (swp insInner insOuter)
set_option maxHeartbeats 2000000 in
set_option maxRecDepth 100000 in
theorem so_ins {α : Type} [Inhabited α] {lt : α → α → Bool} {n lf sf : Nat} {lb sb : Array Value} (E : SoE α lt n lf lb sf sb) (w : World) (d : Array α) (a b : Nat) (hI : E.I d w) (hab : a ≤ b) (hb : b ≤ n) :
    Calls Tryz.prog 88 #[(.agg (soL lf lb sf sb).toArray), .int .i64 (a : Int), .int .i64 (b : Int)] w fun e w' => e = .returned (.tuple #[]) ∧ E.I (Sort.insertionSort lt d a b) w' ∧ E.R w w' := by
  have eg := E.eg
  have HI := Lib.hid hI
  have NL := Lib.hid E.le
  have hab' := Lib.hid hab
  have hb' := Lib.hid hb
  go_enter Tryz.func88, Tryz.ntmps88
  go_upto_region 1 with fail
  have f0 := heap_alloc_new w (.cells (soL lf lb sf sb).toArray 140 (0, 0))
  have bb := (Below.refl w.heap.size w).alloc (Nat.le_refl _) (.cells (soL lf lb sf sb).toArray 140 (0, 0))
  generalize hq : World.alloc _ _ = w1
  have eq : w.alloc (.cells (soL lf lb sf sb).toArray 140 (0, 0)) = w1 := hq
  rw [eq] at f0 bb
  obtain ⟨b0, hb0⟩ : ∃ b0, b0 = w.heap.size := ⟨_, rfl⟩
  rw [← hb0] at f0 ⊢
  have F0 := Lib.hid f0
  have I1 := Lib.hid (E.below _ _ _ hI bb)
  have R1 := Lib.hid (E.rb _ _ bb)
  clear f0 bb hq eq hb0 hI
  clear hab hb
  have ab := hab'.out
  have bn := hb'.out
  have nl := NL.out
  go_wp2_with fail
  go_loopw [6] (fun vi wr => ∃ (i : Nat) (dk : Array α), vi = .int .i64 (i : Int) ∧ a < i ∧ i ≤ b + 1 ∧ E.I dk wr ∧ E.R w wr ∧ wr.heap[b0]? = some (.cells (soL lf lb sf sb).toArray 140 (0, 0)) ∧ insOuter lt a b i dk = insOuter lt a b (a + 1) d) (fun vi _ => b + 1 - (intOf vi).toNat)
  case atStart => exact ⟨a + 1, d, by go_num, by omega, by omega, I1.out, R1.out, F0.out, rfl⟩
  case round =>
    clear F0 I1 R1 HI
    obtain ⟨i, dk, rfl, hai, hib, hi, hr, hf, ho⟩ := hrel
    have IK := Lib.hid hi
    have RK := Lib.hid hr
    have FK := Lib.hid hf
    have OK := Lib.hid ho
    clear hi hr hf ho
    by_cases hlt : i < b
    · go_wp2_with fail
      go_loopw [7] (fun vj wr2 => ∃ (j : Nat) (dj : Array α), vj = .int .i64 (j : Int) ∧ a ≤ j ∧ j ≤ i ∧ E.I dj wr2 ∧ E.R w wr2 ∧ wr2.heap[b0]? = some (.cells (soL lf lb sf sb).toArray 140 (0, 0)) ∧ insInner lt a j dj = insInner lt a i dk) (fun vj _ => (intOf vj).toNat)
      case atStart => exact ⟨i, dk, rfl, by omega, Nat.le_refl _, IK.out, RK.out, FK.out, rfl⟩
      case round =>
        clear IK RK FK
        obtain ⟨j, dj, rfl, haj, hji, hi, hr, hf, ho⟩ := hrel
        have IJ := Lib.hid hi
        have RJ := Lib.hid hr
        have FJ := Lib.hid hf
        have OJ := Lib.hid ho
        have c0 := so_c0 hf
        clear hi hr hf ho
        by_cases hja : a < j
        · have hl := E.less dj wr j (j - 1) IJ.out (by omega) (by omega)
          rw [show (((j - 1 : Nat) : Int)) = (j : Int) - 1 by omega] at hl
          cases hlv : lt dj[j]! dj[j - 1]! with
          | true =>
            rw [hlv] at hl
            go_wp2_with (go_at_fn lf; refine hl.mono ?_; rintro e w' ⟨rfl, bb⟩; have IJ2 := Lib.hid (E.below _ _ _ IJ.out bb); have FJ2 := Lib.hid (row_below FJ.out bb); have RJ2 := Lib.hid (E.rt _ _ _ RJ.out (E.rb _ _ bb)); have c1 := so_c1 FJ2.out; clear bb)
            obtain ⟨w2, hs, hi2, hr2⟩ := E.swap dj w' j (j - 1) IJ2.out (by omega) (by omega)
            rw [show (((j - 1 : Nat) : Int)) = (j : Int) - 1 by omega] at hs
            rw [hs, Oper.upon_value]
            have I3 := Lib.hid hi2
            have F3 := Lib.hid (E.rbox _ _ _ hr2 FJ2.out)
            have R3 := Lib.hid (E.rt _ _ _ RJ2.out hr2)
            clear hs hi2 hr2 hl
            go_wp2_with fail
            go_roundw
            case rel => exact ⟨j - 1, swp dj j (j - 1), by congr 1 <;> omega, by omega, by omega, I3.out, R3.out, F3.out, by rw [← OJ.out, insInner_go lt a j dj hja hlv]⟩
            case measure => simp [intOf]; omega
          | false =>
            rw [hlv] at hl
            go_wp2_with (go_at_fn lf; refine hl.mono ?_; rintro e w' ⟨rfl, bb⟩; have IJ2 := Lib.hid (E.below _ _ _ IJ.out bb); have FJ2 := Lib.hid (row_below FJ.out bb); have RJ2 := Lib.hid (E.rt _ _ _ RJ.out (E.rb _ _ bb)); clear bb)
            go_roundw
            case rel => exact ⟨i + 1, dj, by go_num, by omega, by omega, IJ2.out, RJ2.out, FJ2.out, by rw [← OK.out, insOuter_go _ _ _ _ _ hlt, ← OJ.out, insInner_stop _ _ _ _ (Or.inr hlv)]⟩
            case measure => simp [intOf]; omega
        · go_wp2_with fail
          go_roundw
          case rel => exact ⟨i + 1, dj, by go_num, by omega, by omega, IJ.out, RJ.out, FJ.out, by rw [← OK.out, insOuter_go _ _ _ _ _ hlt, ← OJ.out, insInner_stop _ _ _ _ (Or.inl (by omega))]⟩
          case measure => simp [intOf]; omega
    · go_wp2_with fail
      go_end0
      exact ⟨rfl, by unfold Sort.insertionSort; rw [← OK.out, insOuter_stop _ _ _ _ _ hlt]; exact IK.out, RK.out⟩
end Go.Proofs.YtdhcjaflbfpalaaGreatDoor.Sha

/-
  The library's heap sort over a row, its comparison being free to lay blocks. Conditions: those of SoE.
-/
namespace Go.Proofs.YtdhcjaflbfpalaaGreatDoor.Sha
open Go Go.RowKit
open Go.Sort (swp)
set_option maxHeartbeats 4000000 in
set_option maxRecDepth 100000 in
theorem so_sift {α : Type} [Inhabited α] {lt : α → α → Bool} {n lf sf : Nat} {lb sb : Array Value} (E : SoE α lt n lf lb sf sb) (w : World) (d : Array α) (lo hi first : Nat) (hI : E.I d w) (hlo : lo ≤ hi) (hfn : first + hi ≤ n) :
    Calls Tryz.prog 103 #[(.agg (soL lf lb sf sb).toArray), .int .i64 (lo : Int), .int .i64 (hi : Int), .int .i64 (first : Int)] w fun e w' => e = .returned (.tuple #[]) ∧ E.I (Sort.siftDown lt hi first lo d) w' ∧ E.R w w' := by
  have eg := E.eg
  have HI := Lib.hid hI
  have NL := Lib.hid E.le
  have A1 := Lib.hid hlo
  have A2 := Lib.hid hfn
  go_enter Tryz.func103, Tryz.ntmps103
  go_upto_region 1 with fail
  have f0 := heap_alloc_new w (.cells (soL lf lb sf sb).toArray 140 (0, 0))
  have bb := (Below.refl w.heap.size w).alloc (Nat.le_refl _) (.cells (soL lf lb sf sb).toArray 140 (0, 0))
  generalize hq : World.alloc _ _ = w1
  have eq : w.alloc (.cells (soL lf lb sf sb).toArray 140 (0, 0)) = w1 := hq
  rw [eq] at f0 bb
  obtain ⟨b0, hb0⟩ : ∃ b0, b0 = w.heap.size := ⟨_, rfl⟩
  rw [← hb0] at f0 ⊢
  have F0 := Lib.hid f0
  have I1 := Lib.hid (E.below _ _ _ hI bb)
  have R1 := Lib.hid (E.rb _ _ bb)
  clear f0 bb hq eq hb0 hI
  clear hlo hfn
  have nl := NL.out
  have a1 := A1.out
  have a2 := A2.out
  go_wp2_with fail
  go_loopw [8] (fun vr wr => ∃ (r : Nat) (dk : Array α), vr = .int .i64 (r : Int) ∧ r ≤ hi ∧ E.I dk wr ∧ E.R w wr ∧ wr.heap[b0]? = some (.cells (soL lf lb sf sb).toArray 140 (0, 0)) ∧ Sort.siftDown lt hi first r dk = Sort.siftDown lt hi first lo d) (fun vr _ => hi - (intOf vr).toNat)
  case atStart => exact ⟨lo, d, rfl, A1.out, I1.out, R1.out, F0.out, rfl⟩
  case round =>
    clear F0 I1 R1 HI
    obtain ⟨r, dk, rfl, hrh, hi_, hr, hf, ho⟩ := hrel
    have IK := Lib.hid hi_
    have RK := Lib.hid hr
    have FK := Lib.hid hf
    have OK := Lib.hid ho
    clear hi_ hr hf ho
    obtain ⟨c, hc⟩ : ∃ c, c = 2 * r + 1 := ⟨_, rfl⟩
    have EQC : Hid (2 * (r : Int) + 1 = (c : Int)) := by show _ = _; omega
    have HC := Lib.hid hc
    clear hc
    go_upto_region 3 with fail
    rw [EQC.out]
    by_cases h0 : hi ≤ c
    · have q0 : (hi : Int) ≤ (c : Int) := by have hc := HC.out; omega
      go_wp2_with fail
      go_end0
      exact ⟨rfl, by rw [← OK.out, Sort.sd_end lt dk (by have hc := HC.out; omega)]; exact IK.out, RK.out⟩
    have q0 : (c : Int) < (hi : Int) := by have hc := HC.out; omega
    by_cases h1 : c + 1 < hi
    · have q1 : (c : Int) + 1 < (hi : Int) := by have hc := HC.out; omega
      have hl := E.less dk wr (first + c) (first + c + 1) IK.out (by have hc := HC.out; omega) (by have hc := HC.out; omega)
      rw [show ((first + c : Nat) : Int) = (first : Int) + (c : Int) by have hc := HC.out; omega, show ((first + c + 1 : Nat) : Int) = (first : Int) + (c : Int) + 1 by have hc := HC.out; omega] at hl
      have c0 := so_c0 FK.out
      cases hv1 : lt dk[first + c]! dk[first + c + 1]! with
      | true =>
        rw [hv1] at hl
        go_upto_region 6 with (go_at_fn lf; refine hl.mono ?_; rintro e w' ⟨rfl, bb⟩; have IJ2 := Lib.hid (E.below _ _ _ IK.out bb); have FJ2 := Lib.hid (row_below FK.out bb); have RJ2 := Lib.hid (E.rt _ _ _ RK.out (E.rb _ _ bb)); have c0 := so_c0 FJ2.out; clear bb)
        have hl := E.less dk w' (first + r) (first + (c + 1)) IJ2.out (by have hc := HC.out; omega) (by have hc := HC.out; omega)
        rw [show ((first + r : Nat) : Int) = (first : Int) + (r : Int) by have hc := HC.out; omega, show ((first + (c + 1) : Nat) : Int) = (first : Int) + ((c : Int) + 1) by have hc := HC.out; omega] at hl
        have c0 := so_c0 FJ2.out
        cases hv : lt dk[first + r]! dk[first + (c + 1)]! with
        | false =>
          rw [hv] at hl
          go_wp2_with (go_at_fn lf; refine hl.mono ?_; rintro e w9 ⟨rfl, bb⟩; have I9 := Lib.hid (E.below _ _ _ IJ2.out bb); have F9 := Lib.hid (row_below FJ2.out bb); have R9 := Lib.hid (E.rt _ _ _ RJ2.out (E.rb _ _ bb)); have c1 := so_c1 F9.out; clear bb)
          refine bodyPost_ret (results_none rfl _ _ _) rfl ?_
          exact ⟨rfl, by rw [← OK.out, Sort.sd_right_stop lt dk (by have hc := HC.out; omega) (by rw [show first + (2 * r + 1) = first + c by have hc := HC.out; omega, show first + (2 * r + 2) = first + c + 1 by have hc := HC.out; omega]; exact hv1) (by rw [show first + (2 * r + 2) = first + (c + 1) by have hc := HC.out; omega]; exact hv)]; exact I9.out, R9.out⟩
        | true =>
          rw [hv] at hl
          go_wp2_with (go_at_fn lf; refine hl.mono ?_; rintro e w9 ⟨rfl, bb⟩; have I9 := Lib.hid (E.below _ _ _ IJ2.out bb); have F9 := Lib.hid (row_below FJ2.out bb); have R9 := Lib.hid (E.rt _ _ _ RJ2.out (E.rb _ _ bb)); have c1 := so_c1 F9.out; clear bb)
          obtain ⟨w2, hs, hi2, hr2⟩ := E.swap dk w9 (first + r) (first + (c + 1)) I9.out (by have hc := HC.out; omega) (by have hc := HC.out; omega)
          rw [show ((first + r : Nat) : Int) = (first : Int) + (r : Int) by have hc := HC.out; omega, show ((first + (c + 1) : Nat) : Int) = (first : Int) + ((c : Int) + 1) by have hc := HC.out; omega] at hs
          rw [hs, Oper.upon_value]
          have I3 := Lib.hid hi2
          have F3 := Lib.hid (E.rbox _ _ _ hr2 F9.out)
          have R3 := Lib.hid (E.rt _ _ _ R9.out hr2)
          clear hs hi2 hr2 hl
          go_wp2_with fail
          go_roundw
          case rel => exact ⟨first + (c + 1) - first, _, by have hc := HC.out; congr 1 <;> omega, by have hc := HC.out; omega, I3.out, R3.out, F3.out, by rw [← OK.out, Sort.sd_right_go lt dk (by have hc := HC.out; omega) (by rw [show first + (2 * r + 1) = first + c by have hc := HC.out; omega, show first + (2 * r + 2) = first + c + 1 by have hc := HC.out; omega]; exact hv1) (by rw [show first + (2 * r + 2) = first + (c + 1) by have hc := HC.out; omega]; exact hv), show 2 * r + 2 = first + (c + 1) - first by have hc := HC.out; omega, show first + (first + (c + 1) - first) = first + (c + 1) by have hc := HC.out; omega]⟩
          case measure => have hc := HC.out; simp [intOf]; omega

      | false =>
        rw [hv1] at hl
        go_upto_region 6 with (go_at_fn lf; refine hl.mono ?_; rintro e w' ⟨rfl, bb⟩; have IJ2 := Lib.hid (E.below _ _ _ IK.out bb); have FJ2 := Lib.hid (row_below FK.out bb); have RJ2 := Lib.hid (E.rt _ _ _ RK.out (E.rb _ _ bb)); have c0 := so_c0 FJ2.out; clear bb)
        have hl := E.less dk w' (first + r) (first + c) IJ2.out (by have hc := HC.out; omega) (by have hc := HC.out; omega)
        rw [show ((first + r : Nat) : Int) = (first : Int) + (r : Int) by have hc := HC.out; omega, show ((first + c : Nat) : Int) = (first : Int) + (c : Int) by have hc := HC.out; omega] at hl
        have c0 := so_c0 FJ2.out
        cases hv : lt dk[first + r]! dk[first + c]! with
        | false =>
          rw [hv] at hl
          go_wp2_with (go_at_fn lf; refine hl.mono ?_; rintro e w9 ⟨rfl, bb⟩; have I9 := Lib.hid (E.below _ _ _ IJ2.out bb); have F9 := Lib.hid (row_below FJ2.out bb); have R9 := Lib.hid (E.rt _ _ _ RJ2.out (E.rb _ _ bb)); have c1 := so_c1 F9.out; clear bb)
          refine bodyPost_ret (results_none rfl _ _ _) rfl ?_
          exact ⟨rfl, by rw [← OK.out, Sort.sd_left_stop lt dk (by have hc := HC.out; omega) (fun _ => by rw [show first + (2 * r + 1) = first + c by have hc := HC.out; omega, show first + (2 * r + 2) = first + c + 1 by have hc := HC.out; omega]; exact hv1) (by rw [show first + (2 * r + 1) = first + c by have hc := HC.out; omega]; exact hv)]; exact I9.out, R9.out⟩
        | true =>
          rw [hv] at hl
          go_wp2_with (go_at_fn lf; refine hl.mono ?_; rintro e w9 ⟨rfl, bb⟩; have I9 := Lib.hid (E.below _ _ _ IJ2.out bb); have F9 := Lib.hid (row_below FJ2.out bb); have R9 := Lib.hid (E.rt _ _ _ RJ2.out (E.rb _ _ bb)); have c1 := so_c1 F9.out; clear bb)
          obtain ⟨w2, hs, hi2, hr2⟩ := E.swap dk w9 (first + r) (first + c) I9.out (by have hc := HC.out; omega) (by have hc := HC.out; omega)
          rw [show ((first + r : Nat) : Int) = (first : Int) + (r : Int) by have hc := HC.out; omega, show ((first + c : Nat) : Int) = (first : Int) + (c : Int) by have hc := HC.out; omega] at hs
          rw [hs, Oper.upon_value]
          have I3 := Lib.hid hi2
          have F3 := Lib.hid (E.rbox _ _ _ hr2 F9.out)
          have R3 := Lib.hid (E.rt _ _ _ R9.out hr2)
          clear hs hi2 hr2 hl
          go_wp2_with fail
          go_roundw
          case rel => exact ⟨first + c - first, _, by have hc := HC.out; congr 1 <;> omega, by have hc := HC.out; omega, I3.out, R3.out, F3.out, by rw [← OK.out, Sort.sd_left_go lt dk (by have hc := HC.out; omega) (fun _ => by rw [show first + (2 * r + 1) = first + c by have hc := HC.out; omega, show first + (2 * r + 2) = first + c + 1 by have hc := HC.out; omega]; exact hv1) (by rw [show first + (2 * r + 1) = first + c by have hc := HC.out; omega]; exact hv), show 2 * r + 1 = first + c - first by have hc := HC.out; omega, show first + (first + c - first) = first + c by have hc := HC.out; omega]⟩
          case measure => have hc := HC.out; simp [intOf]; omega

    · have q1 : ¬ (c : Int) + 1 < (hi : Int) := by have hc := HC.out; omega
      go_upto_region 6 with fail
      have hl := E.less dk wr (first + r) (first + c) IK.out (by have hc := HC.out; omega) (by have hc := HC.out; omega)
      rw [show ((first + r : Nat) : Int) = (first : Int) + (r : Int) by have hc := HC.out; omega, show ((first + c : Nat) : Int) = (first : Int) + (c : Int) by have hc := HC.out; omega] at hl
      have c0 := so_c0 FK.out
      cases hv : lt dk[first + r]! dk[first + c]! with
      | false =>
        rw [hv] at hl
        go_wp2_with (go_at_fn lf; refine hl.mono ?_; rintro e w9 ⟨rfl, bb⟩; have I9 := Lib.hid (E.below _ _ _ IK.out bb); have F9 := Lib.hid (row_below FK.out bb); have R9 := Lib.hid (E.rt _ _ _ RK.out (E.rb _ _ bb)); have c1 := so_c1 F9.out; clear bb)
        refine bodyPost_ret (results_none rfl _ _ _) rfl ?_
        exact ⟨rfl, by rw [← OK.out, Sort.sd_left_stop lt dk (by have hc := HC.out; omega) (fun h => absurd h (by have hc := HC.out; omega)) (by rw [show first + (2 * r + 1) = first + c by have hc := HC.out; omega]; exact hv)]; exact I9.out, R9.out⟩
      | true =>
        rw [hv] at hl
        go_wp2_with (go_at_fn lf; refine hl.mono ?_; rintro e w9 ⟨rfl, bb⟩; have I9 := Lib.hid (E.below _ _ _ IK.out bb); have F9 := Lib.hid (row_below FK.out bb); have R9 := Lib.hid (E.rt _ _ _ RK.out (E.rb _ _ bb)); have c1 := so_c1 F9.out; clear bb)
        obtain ⟨w2, hs, hi2, hr2⟩ := E.swap dk w9 (first + r) (first + c) I9.out (by have hc := HC.out; omega) (by have hc := HC.out; omega)
        rw [show ((first + r : Nat) : Int) = (first : Int) + (r : Int) by have hc := HC.out; omega, show ((first + c : Nat) : Int) = (first : Int) + (c : Int) by have hc := HC.out; omega] at hs
        rw [hs, Oper.upon_value]
        have I3 := Lib.hid hi2
        have F3 := Lib.hid (E.rbox _ _ _ hr2 F9.out)
        have R3 := Lib.hid (E.rt _ _ _ R9.out hr2)
        clear hs hi2 hr2 hl
        go_wp2_with fail
        go_roundw
        case rel => exact ⟨first + c - first, _, by have hc := HC.out; congr 1 <;> omega, by have hc := HC.out; omega, I3.out, R3.out, F3.out, by rw [← OK.out, Sort.sd_left_go lt dk (by have hc := HC.out; omega) (fun h => absurd h (by have hc := HC.out; omega)) (by rw [show first + (2 * r + 1) = first + c by have hc := HC.out; omega]; exact hv), show 2 * r + 1 = first + c - first by have hc := HC.out; omega, show first + (first + c - first) = first + c by have hc := HC.out; omega]⟩
        case measure => have hc := HC.out; simp [intOf]; omega
set_option maxHeartbeats 4000000 in
set_option maxRecDepth 100000 in
theorem so_heap {α : Type} [Inhabited α] {lt : α → α → Bool} {n lf sf : Nat} {lb sb : Array Value} (E : SoE α lt n lf lb sf sb) (w : World) (d : Array α) (a b : Nat) (hI : E.I d w) (hab : a ≤ b) (hb : b ≤ n) :
    Calls Tryz.prog 89 #[(.agg (soL lf lb sf sb).toArray), .int .i64 (a : Int), .int .i64 (b : Int)] w fun e w' => e = .returned (.tuple #[]) ∧ E.I (Sort.heapSort lt d a b) w' ∧ E.R w w' := by
  have eg := E.eg
  have HI := Lib.hid hI
  have NL := Lib.hid E.le
  have SZ : Hid ((soL lf lb sf sb).toArray.size = 2) := rfl
  obtain ⟨h, hh⟩ : ∃ h, h = b - a := ⟨_, rfl⟩
  have EH : Hid ((b : Int) - (a : Int) = (h : Int)) := by show _ = _; omega
  have HE := Lib.hid hh
  have A1 : Hid (a + h ≤ n) := by show _ ≤ _; omega
  obtain ⟨K, hK2⟩ : ∃ K, K = (h - 1) / 2 + 1 := ⟨_, rfl⟩
  have KE := Lib.hid hK2
  have HQ : Hid (((h : Int) - 1).tdiv 2 = (K : Int) - 1) := by
    have q := half_start (a := 0) (b := h) (Nat.zero_le _)
    show _ = _
    rw [hK2]
    simpa using q
  go_enter Tryz.func89, Tryz.ntmps89
  go_upto_region 1 with fail
  have f0 := heap_alloc_new w (.cells (soL lf lb sf sb).toArray 140 (0, 0))
  have bb := (Below.refl w.heap.size w).alloc (Nat.le_refl _) (.cells (soL lf lb sf sb).toArray 140 (0, 0))
  generalize hq : World.alloc _ _ = w1
  have eq : w.alloc (.cells (soL lf lb sf sb).toArray 140 (0, 0)) = w1 := hq
  rw [eq] at f0 bb
  obtain ⟨b0, hb0⟩ : ∃ b0, b0 = w.heap.size := ⟨_, rfl⟩
  rw [← hb0] at f0 ⊢
  have F0 := Lib.hid f0
  have I1 := Lib.hid (E.below _ _ _ hI bb)
  have R1 := Lib.hid (E.rb _ _ bb)
  clear f0 bb hq eq hb0 hI
  clear hh hK2
  have nl := NL.out
  go_upto_region 4 with fail
  rw [EH.out]
  clear hab hb
  have hle : h ≤ 1048576 := by have := A1.out; omega
  have a1 := A1.out
  have hq := HQ.out
  have kle : K ≤ 1048577 := by have := KE.out; omega
  go_upto_region 5 with fail
  clear hq
  go_loopw [9] (fun vi wr => ∃ (k : Nat) (dk : Array α), vi = .int .i64 ((k : Int) - 1) ∧ k ≤ K ∧ E.I dk wr ∧ E.R w wr ∧ wr.heap[b0]? = some (.cells (soL lf lb sf sb).toArray 140 (0, 0)) ∧ Sort.heapBuild lt h a k dk = Sort.heapBuild lt h a K d) (fun vi _ => (intOf vi + 1).toNat)
  case atStart => exact ⟨K, d, rfl, Nat.le_refl _, I1.out, R1.out, F0.out, rfl⟩
  case round =>
    clear F0 I1 R1 HI
    obtain ⟨k, dk, rfl, hk, hi_, hr, hf, ho⟩ := hrel
    have IK := Lib.hid hi_
    have RK := Lib.hid hr
    have FK := Lib.hid hf
    have OK := Lib.hid ho
    clear hi_ hr hf ho
    cases k with
    | succ j =>
      have ej : (((j + 1 : Nat) : Int) - 1) = (j : Int) := by omega
      rw [ej]
      have jh : j ≤ h := by have := KE.out; omega
      have SD := so_sift E wr dk j h a IK.out jh A1.out
      clear ej
      go_wp2_with ((with_reducible show wpList _ _ _ _ _ _); (refine wpList_load_row rfl 140 (.tmp 3) rfl b0 rfl 140 (soL lf lb sf sb).toArray (0, 0) _ FK.out Tryz.underlying140 rfl (by rw [SZ.out]; kernel_rfl) ?_; go_frame))
      refine SD.mono ?_
      rintro e w2 ⟨rfl, i2, r2⟩
      have I2 := Lib.hid i2
      have F2 := Lib.hid (E.rbox _ _ _ r2 FK.out)
      have R2 := Lib.hid (E.rt _ _ _ RK.out r2)
      clear i2 r2 SD
      go_wp2_with fail
      go_roundw
      case rel => exact ⟨j, _, rfl, by omega, I2.out, R2.out, F2.out, by rw [← OK.out]; rfl⟩
      case measure => simp [intOf]
    | zero =>
      have OK2 : Hid (dk = Sort.heapBuild lt h a K d) := by show _ = _; rw [← OK.out]; rfl
      have e0 : (((0 : Nat) : Int) - 1) = -1 := by omega
      rw [e0]
      clear e0 hk OK
      go_wp2_with fail
      go_loopw [10] (fun vi wr2 => ∃ (k : Nat) (dj : Array α), vi = .int .i64 ((k : Int) - 1) ∧ k ≤ h ∧ E.I dj wr2 ∧ E.R w wr2 ∧ wr2.heap[b0]? = some (.cells (soL lf lb sf sb).toArray 140 (0, 0)) ∧ Sort.heapPop lt a k dj = Sort.heapPop lt a h dk) (fun vi _ => (intOf vi + 1).toNat)
      case atStart => exact ⟨h, dk, rfl, Nat.le_refl _, IK.out, RK.out, FK.out, rfl⟩
      case round =>
        clear IK RK FK
        obtain ⟨k, dj, rfl, hk, hi_, hr, hf, ho⟩ := hrel
        have IJ := Lib.hid hi_
        have RJ := Lib.hid hr
        have FJ := Lib.hid hf
        have OJ := Lib.hid ho
        have c1 := so_c1 hf
        clear hi_ hr hf ho
        cases k with
        | succ j =>
          have ej : (((j + 1 : Nat) : Int) - 1) = (j : Int) := by omega
          rw [ej]
          clear ej
          go_wp2_with fail
          obtain ⟨w2, hs, hi2, hr2⟩ := E.swap dj wr a (a + j) IJ.out (by omega) (by omega)
          rw [show ((a + j : Nat) : Int) = (a : Int) + (j : Int) by omega] at hs
          rw [hs, Oper.upon_value]
          have I3 := Lib.hid hi2
          have F3 := Lib.hid (E.rbox _ _ _ hr2 FJ.out)
          have R3 := Lib.hid (E.rt _ _ _ RJ.out hr2)
          clear hs hi2 hr2 c1
          have SD := so_sift E w2 (swp dj a (a + j)) 0 j a I3.out (Nat.zero_le _) (by omega)
          go_wp2_with ((with_reducible show wpList _ _ _ _ _ _); (refine wpList_load_row rfl 140 (.tmp 3) rfl b0 rfl 140 (soL lf lb sf sb).toArray (0, 0) _ F3.out Tryz.underlying140 rfl (by rw [SZ.out]; kernel_rfl) ?_; go_frame))
          refine SD.mono ?_
          rintro e w4 ⟨rfl, i2, r2⟩
          have I2 := Lib.hid i2
          have F2 := Lib.hid (E.rbox _ _ _ r2 F3.out)
          have R2 := Lib.hid (E.rt _ _ _ R3.out r2)
          clear i2 r2 SD
          go_wp2_with fail
          go_roundw
          case rel => exact ⟨j, _, rfl, by omega, I2.out, R2.out, F2.out, by rw [← OJ.out]; rfl⟩
          case measure => simp [intOf]
        | zero =>
          have e0 : (((0 : Nat) : Int) - 1) = -1 := by omega
          rw [e0]
          clear e0 hk c1
          go_wp2_with fail
          go_end0
          refine ⟨rfl, ?_, RJ.out⟩
          have e1 : Sort.heapSort lt d a b = dj := by
            unfold Sort.heapSort
            rw [← HE.out, ← KE.out, ← OK2.out, ← OJ.out]
            rfl
          rw [e1]
          exact IJ.out
end Go.Proofs.YtdhcjaflbfpalaaGreatDoor.Sha

/-
  The library's choice of a pivot over a row, its comparison being free to lay blocks. Conditions: those of SoE.
-/
namespace Go.Proofs.YtdhcjaflbfpalaaGreatDoor.Sha
open Go Go.RowKit
open Go.Sort (swp order2 median medianAdjacent choosePivot Hint)
theorem so_o2 {α : Type} [Inhabited α] (lt : α → α → Bool) (d : Array α) {a b S n : Nat} (ha : a < n) (hb : b < n) : (order2 lt d a b S).1 < n ∧ (order2 lt d a b S).2.1 < n ∧ (order2 lt d a b S).2.2 ≤ S + 1 := by
  unfold order2
  split
  · exact ⟨hb, ha, Nat.le_refl _⟩
  · exact ⟨ha, hb, Nat.le_succ _⟩
theorem so_md {α : Type} [Inhabited α] (lt : α → α → Bool) (d : Array α) {a b c S n : Nat} (ha : a < n) (hb : b < n) (hc : c < n) : (median lt d a b c S).1 < n ∧ (median lt d a b c S).2 ≤ S + 3 := by
  have h1 := so_o2 lt d (S := S) ha hb
  have h2 := so_o2 lt d (S := (order2 lt d a b S).2.2) h1.2.1 hc
  have h3 := so_o2 lt d (S := (order2 lt d (order2 lt d a b S).2.1 c (order2 lt d a b S).2.2).2.2) h1.1 h2.1
  unfold median
  exact ⟨h3.2.1, Nat.le_trans h3.2.2 (by omega)⟩
/-- What a call that counts exchanges leaves: all from w0 on may turn; the counter in block s. -/
structure SoC (w0 : World) (s : Nat) (W w' : World) (S : Nat) : Prop where
  low : Below w0.heap.size w0 w'
  cnt : w'.heap[s]? = some (.cells #[.int .i64 (S : Int)] 3 (0, 0))
  far : W.grownBy w' (some s)
theorem SoC.trans {w0 W W1 W2 : World} {s S S2 : Nat} (h : SoC w0 s W W1 S) (k : SoC w0 s W1 W2 S2) : SoC w0 s W W2 S2 := ⟨k.low, k.cnt, grownBy_trans h.far k.far⟩
theorem SoC.below {w0 W W1 W2 : World} {s S : Nat} (h : SoC w0 s W W1 S) (hb : Below W1.heap.size W1 W2) : SoC w0 s W W2 S := ⟨h.low.trans (hb.mono h.low.size), row_below h.cnt hb, grownBy_trans h.far (grownBy_of_below hb _)⟩
theorem SoC.box {w0 W W1 : World} {s S : Nat} (h : SoC w0 s W W1 S) {b : Nat} {cs : Array Value} {T : TypeId} (hb : W.heap[b]? = some (.cells cs T (0, 0))) (hs : b ≠ s) : W1.heap[b]? = some (.cells cs T (0, 0)) := row_far hb h.far (fun e => hs (Option.some.inj e).symm)
set_option maxHeartbeats 2000000 in
set_option maxRecDepth 100000 in
theorem so_order2 {α : Type} [Inhabited α] {lt : α → α → Bool} {n lf sf : Nat} {lb sb : Array Value} (E : SoE α lt n lf lb sf sb) (w0 w : World) (d : Array α) (a b S s : Nat) (hI : E.I d w0) (hlo : Below w0.heap.size w0 w) (hs : w.heap[s]? = some (.cells #[.int .i64 (S : Int)] 3 (0, 0))) (hns : w0.heap.size ≤ s) (ha : a < n) (hb : b < n) (hS : S ≤ 1000) :
    Calls Tryz.prog 115 #[(.agg (soL lf lb sf sb).toArray), .int .i64 (a : Int), .int .i64 (b : Int), .pointer (some ⟨s, 0, none⟩)] w fun e w' => e = .returned (.tuple #[.int .i64 ((order2 lt d a b S).1 : Int), .int .i64 ((order2 lt d a b S).2.1 : Int)]) ∧ SoC w0 s w w' (order2 lt d a b S).2.2 := by
  have eg := E.eg
  have HI := Lib.hid hI
  have LO := Lib.hid hlo
  have SR := Lib.hid hs
  have NS := Lib.hid hns
  have NL := Lib.hid E.le
  go_enter Tryz.func115, Tryz.ntmps115
  go_upto_region 1 with fail
  have f0 := heap_alloc_new w (.cells (soL lf lb sf sb).toArray 140 (0, 0))
  have bb := (Below.refl w.heap.size w).alloc (Nat.le_refl _) (.cells (soL lf lb sf sb).toArray 140 (0, 0))
  generalize hq : World.alloc _ _ = w1
  have eq : w.alloc (.cells (soL lf lb sf sb).toArray 140 (0, 0)) = w1 := hq
  rw [eq] at f0 bb
  obtain ⟨b0, hb0⟩ : ∃ b0, b0 = w.heap.size := ⟨_, rfl⟩
  rw [← hb0] at f0 ⊢
  have F0 := Lib.hid f0
  have C1 : Hid (SoC w0 s w w1 S) := (⟨LO.out, SR.out, ⟨rfl, rfl, rfl, Nat.le_refl _, fun _ _ _ => rfl⟩⟩ : SoC w0 s w w S).below bb
  clear f0 bb hq eq hb0 hI hlo hs hns
  have hl := E.less d w1 b a (E.below _ _ _ HI.out C1.out.low) hb ha
  have c0 := so_c0 F0.out
  cases hv : lt d[b]! d[a]! with
  | true =>
    have OE : Hid (order2 lt d a b S = (b, a, S + 1)) := by show _ = _; unfold order2; rw [hv]; rfl
    rw [hv] at hl
    have sle : S ≤ 1000 := hS
    go_wp2_with (first | (go_at_fn lf; refine hl.mono ?_; rintro e w2 ⟨rfl, bb⟩; have C2 := Lib.hid (C1.out.below bb); have cS : w2.cell? ⟨s, 0, none⟩ = some (.int .i64 (S : Int)) := (by rw [cell_of_row _ _ _ _ _ _ C2.out.cnt]; rfl); clear bb) | ((with_reducible show wpList _ _ _ _ _ _); refine wpList_store_part rfl 3 (.tmp 19) (.tmp 18) rfl s 0 [] [.int .i64 (S : Int)] [] [.int .i64 (((S + 1 : Nat) : Int))] 3 (.int .i64 (((S + 1 : Nat) : Int))) rfl (by go_num) rfl rfl rfl C2.out.cnt (by kernel_rfl) (fun u hu => by rcases List.mem_singleton.1 hu with rfl; rfl) ?_; intro w3 q1 q2; have C3 : Hid (SoC w0 s w w3 (S + 1)) := ⟨C2.out.low.grown q2 C2.out.low.size (fun k hk => by cases hk; exact NS.out), q1, grownBy_trans C2.out.far q2⟩; clear q1 q2; go_frame))
    go_ret2
    rw [OE.out]
    exact ⟨rfl, C3.out⟩
  | false =>
    have OE : Hid (order2 lt d a b S = (a, b, S)) := by show _ = _; unfold order2; rw [hv]; rfl
    rw [hv] at hl
    go_wp2_with (go_at_fn lf; refine hl.mono ?_; rintro e w2 ⟨rfl, bb⟩; have C2 := Lib.hid (C1.out.below bb); clear bb)
    go_ret2
    rw [OE.out]
    exact ⟨rfl, C2.out⟩
set_option maxHeartbeats 2000000 in
set_option maxRecDepth 100000 in
theorem so_median {α : Type} [Inhabited α] {lt : α → α → Bool} {n lf sf : Nat} {lb sb : Array Value} (E : SoE α lt n lf lb sf sb) (w0 w : World) (d : Array α) (a b c S s : Nat) (hI : E.I d w0) (hlo : Below w0.heap.size w0 w) (hs : w.heap[s]? = some (.cells #[.int .i64 (S : Int)] 3 (0, 0))) (hns : w0.heap.size ≤ s) (ha : a < n) (hb : b < n) (hc : c < n) (hS : S ≤ 996) :
    Calls Tryz.prog 107 #[(.agg (soL lf lb sf sb).toArray), .int .i64 (a : Int), .int .i64 (b : Int), .int .i64 (c : Int), .pointer (some ⟨s, 0, none⟩)] w fun e w' => e = .returned (.int .i64 ((median lt d a b c S).1 : Int)) ∧ SoC w0 s w w' (median lt d a b c S).2 := by
  have SZ : Hid ((soL lf lb sf sb).toArray.size = 2) := rfl
  have HI := Lib.hid hI
  have NS := Lib.hid hns
  have B0 : Hid (S ≤ 996 + 0) := hS
  go_enter Tryz.func107, Tryz.ntmps107
  go_upto_region 1 with fail
  have f0 := heap_alloc_new w (.cells (soL lf lb sf sb).toArray 140 (0, 0))
  have bb := (Below.refl w.heap.size w).alloc (Nat.le_refl _) (.cells (soL lf lb sf sb).toArray 140 (0, 0))
  generalize hq : World.alloc _ _ = w1
  have eq : w.alloc (.cells (soL lf lb sf sb).toArray 140 (0, 0)) = w1 := hq
  rw [eq] at f0 bb
  obtain ⟨b0, hb0⟩ : ∃ b0, b0 = w.heap.size := ⟨_, rfl⟩
  rw [← hb0] at f0 ⊢
  have F0 := Lib.hid f0
  have C1 : Hid (SoC w0 s w w1 S) := (⟨hlo, hs, ⟨rfl, rfl, rfl, Nat.le_refl _, fun _ _ _ => rfl⟩⟩ : SoC w0 s w w S).below bb
  have NB : Hid (b0 ≠ s) := by have := (Array.getElem?_eq_some_iff.1 hs).1; show _ ≠ _; omega
  clear f0 bb hq eq hb0
  clear hI hlo hs hns hS
  have OC := so_order2 E w0 w1 d a b S s HI.out C1.out.low C1.out.cnt NS.out ha hb (by have := B0.out; omega)
  obtain ⟨x0, y0, S0, ho⟩ : ∃ x y S', order2 lt d a b S = (x, y, S') := ⟨_, _, _, rfl⟩
  have OB := so_o2 lt d (S := S) ha hb
  rw [ho] at OC OB
  simp only at OC OB
  have O0 := Lib.hid ho
  have X0 : Hid (x0 < n) := OB.1
  have Y0 : Hid (y0 < n) := OB.2.1
  have B1 : Hid (S0 ≤ 996 + 1) := by have := OB.2.2; have := B0.out; show _ ≤ _; omega
  clear ho OB
  go_wp2_with ((with_reducible show wpList _ _ _ _ _ _); (refine wpList_load_row rfl 140 (.tmp 5) rfl b0 rfl 140 (soL lf lb sf sb).toArray (0, 0) _ F0.out Tryz.underlying140 rfl (by rw [SZ.out]; kernel_rfl) ?_; go_frame))
  refine OC.mono ?_
  rintro e w2 ⟨rfl, cc⟩
  have FA := Lib.hid (cc.box F0.out NB.out)
  have CA := Lib.hid (C1.out.trans cc)
  clear cc OC
  have OC := so_order2 E w0 w2 d y0 c S0 s HI.out CA.out.low CA.out.cnt NS.out Y0.out hc (by have := B1.out; omega)
  obtain ⟨x1, y1, S1, ho⟩ : ∃ x y S', order2 lt d y0 c S0 = (x, y, S') := ⟨_, _, _, rfl⟩
  have OB := so_o2 lt d (S := S0) Y0.out hc
  rw [ho] at OC OB
  simp only at OC OB
  have O1 := Lib.hid ho
  have X1 : Hid (x1 < n) := OB.1
  have Y1 : Hid (y1 < n) := OB.2.1
  have B2 : Hid (S1 ≤ 996 + 2) := by have := OB.2.2; have := B1.out; show _ ≤ _; omega
  clear ho OB
  go_wp2_with ((with_reducible show wpList _ _ _ _ _ _); (refine wpList_load_row rfl 140 (.tmp 5) rfl b0 rfl 140 (soL lf lb sf sb).toArray (0, 0) _ FA.out Tryz.underlying140 rfl (by rw [SZ.out]; kernel_rfl) ?_; go_frame))
  refine OC.mono ?_
  rintro e w3 ⟨rfl, cc⟩
  have FB := Lib.hid (cc.box FA.out NB.out)
  have CB := Lib.hid (CA.out.trans cc)
  clear cc OC
  have OC := so_order2 E w0 w3 d x0 x1 S1 s HI.out CB.out.low CB.out.cnt NS.out X0.out X1.out (by have := B2.out; omega)
  obtain ⟨x2, y2, S2, ho⟩ : ∃ x y S', order2 lt d x0 x1 S1 = (x, y, S') := ⟨_, _, _, rfl⟩
  have OB := so_o2 lt d (S := S1) X0.out X1.out
  rw [ho] at OC OB
  simp only at OC OB
  have O2 := Lib.hid ho
  have X2 : Hid (x2 < n) := OB.1
  have Y2 : Hid (y2 < n) := OB.2.1
  have B3 : Hid (S2 ≤ 996 + 3) := by have := OB.2.2; have := B2.out; show _ ≤ _; omega
  clear ho OB
  go_wp2_with ((with_reducible show wpList _ _ _ _ _ _); (refine wpList_load_row rfl 140 (.tmp 5) rfl b0 rfl 140 (soL lf lb sf sb).toArray (0, 0) _ FB.out Tryz.underlying140 rfl (by rw [SZ.out]; kernel_rfl) ?_; go_frame))
  refine OC.mono ?_
  rintro e w4 ⟨rfl, cc⟩
  have FC := Lib.hid (cc.box FB.out NB.out)
  have CC := Lib.hid (CB.out.trans cc)
  clear cc OC
  go_wp2_with fail
  go_ret
  have e1 : median lt d a b c S = (y2, S2) := by
    unfold median
    rw [O0.out]
    simp only
    rw [O1.out]
    simp only
    rw [O2.out]
  rw [e1]
  exact ⟨rfl, CC.out⟩
set_option maxHeartbeats 2000000 in
set_option maxRecDepth 100000 in
theorem so_medadj {α : Type} [Inhabited α] {lt : α → α → Bool} {n lf sf : Nat} {lb sb : Array Value} (E : SoE α lt n lf lb sf sb) (w0 w : World) (d : Array α) (a S s : Nat) (hI : E.I d w0) (hlo : Below w0.heap.size w0 w) (hs : w.heap[s]? = some (.cells #[.int .i64 (S : Int)] 3 (0, 0))) (hns : w0.heap.size ≤ s) (ha : 1 ≤ a) (hb : a + 1 < n) (hS : S ≤ 996) :
    Calls Tryz.prog 106 #[(.agg (soL lf lb sf sb).toArray), .int .i64 (a : Int), .pointer (some ⟨s, 0, none⟩)] w fun e w' => e = .returned (.int .i64 ((medianAdjacent lt d a S).1 : Int)) ∧ SoC w0 s w w' (medianAdjacent lt d a S).2 := by
  have SZ : Hid ((soL lf lb sf sb).toArray.size = 2) := rfl
  have NL := E.le
  go_enter Tryz.func106, Tryz.ntmps106
  go_upto_region 1 with fail
  have f0 := heap_alloc_new w (.cells (soL lf lb sf sb).toArray 140 (0, 0))
  have bb := (Below.refl w.heap.size w).alloc (Nat.le_refl _) (.cells (soL lf lb sf sb).toArray 140 (0, 0))
  generalize hq : World.alloc _ _ = w1
  have eq : w.alloc (.cells (soL lf lb sf sb).toArray 140 (0, 0)) = w1 := hq
  rw [eq] at f0 bb
  obtain ⟨b0, hb0⟩ : ∃ b0, b0 = w.heap.size := ⟨_, rfl⟩
  rw [← hb0] at f0 ⊢
  have F0 := Lib.hid f0
  have C1 : Hid (SoC w0 s w w1 S) := (⟨hlo, hs, ⟨rfl, rfl, rfl, Nat.le_refl _, fun _ _ _ => rfl⟩⟩ : SoC w0 s w w S).below bb
  have NB : Hid (b0 ≠ s) := by have := (Array.getElem?_eq_some_iff.1 hs).1; show _ ≠ _; omega
  clear f0 bb hq eq hb0
  have OC := so_median E w0 w1 d (a - 1) a (a + 1) S s hI C1.out.low C1.out.cnt hns (by omega) (by omega) hb hS
  rw [show (((a - 1 : Nat) : Int)) = (a : Int) - 1 by omega, show (((a + 1 : Nat) : Int)) = (a : Int) + 1 by omega] at OC
  clear hI hlo hs hns hS
  go_wp2_with ((with_reducible show wpList _ _ _ _ _ _); (refine wpList_load_row rfl 140 (.tmp 3) rfl b0 rfl 140 (soL lf lb sf sb).toArray (0, 0) _ F0.out Tryz.underlying140 rfl (by rw [SZ.out]; kernel_rfl) ?_; go_frame))
  refine OC.mono ?_
  rintro e w2 ⟨rfl, cc⟩
  have C2 := Lib.hid (C1.out.trans cc)
  clear cc OC
  go_wp2_with fail
  go_ret
  exact ⟨rfl, C2.out⟩
end Go.Proofs.YtdhcjaflbfpalaaGreatDoor.Sha
