/-
  Texts of this proof joined into one file: CtAdd, RefAnc, ShaCmp, PtOrd, TwUnder, SoEnv, SoIns. What each holds, and under which conditions, its own first sentence tells.
-/
import Derived.Lib.Bytealg
import Derived.Lib.BytesEntry
import Derived.Sort.WalkA
import Derived.Sort.AtCall
import Derived.Shelf.Abstract
import Derived.Test.YtbgagaaoldjhnaaGreatDoorMg13
import Derived.Test.YtbgagaaoldjhnaaGreatDoorMg06
import Derived.Test.YtbgagaaoldjhnaaGreatDoorMg05
import Derived.Test.YtbgagaaoldjhnaaGreatDoorMg01
import Derived.Test.YtbgagaaoldjhnaaGreatDoorMg03
import Derived.Test.YtbgagaaoldjhnaaGreatDoorMg12
/-
  The program's tree takes a header in, or tells what is amiss. Besides the tree's map, its nodes and their rows nothing that was there turns. Conditions: the tree lies where it should, a header as the model has it; the three errors and the table of the rounds' words are there.
-/
namespace Go.Proofs.YtbgagaaoldjhnaaGreatDoor.Sha
open Go Go.RowKit
structure CE (w : World) (E : Nat → Addr) : Prop where
  known : w.cell? ⟨0, 0, none⟩ = some (errV E 9)
  parent : w.cell? ⟨1, 0, none⟩ = some (errV E 10)
  full : w.cell? ⟨2, 0, none⟩ = some (errV E 21)
theorem CE.below {w w' : World} {E : Nat → Addr} (h : CE w E) (hb : Below w.heap.size w w') : CE w' E := ⟨cell_below h.known hb, cell_below h.parent hb, cell_below h.full hb⟩
/-- What Add leaves. -/
def CtaP (E : Nat → Addr) (base b mb : Nat) (M : List CNd) (h : THd) (w : World) (e : Ending) (wr : World) : Prop :=
  e = .returned (errV E (addE (ndM M) h - 100)) ∧ (addE (ndM M) h ≠ 0 → Below w.heap.size w wr) ∧ (addE (ndM M) h = 0 → ∃ M', ndM M' = ndM M ++ [nxT (ndM M) h] ∧ CtAt wr base b mb M' ∧ Kps (CF mb M) w wr)
theorem info_nptr : (Tryz.prog.info? 70).map (fun i => (i.zero, i.size, i.bytes)) = some (some (.pointer none), 1, 8) := by kernel_rfl
set_option maxHeartbeats 4000000 in
set_option maxRecDepth 100000 in
theorem ctadd_any (E : Nat → Addr) (w : World) (base b mb : Nat) (M : List CNd) (hd : THd) (h : CtAt w base b mb M) (ht : TrL (ndM M)) (hh : HdOk hd) (hk : KTab w) (hE : CE w E) (hbs : base ≤ w.heap.size) :
    Calls Tryz.prog 9 #[(.pointer (some ⟨b, 0, none⟩)), .agg (hdL hd).toArray] w (CtaP E base b mb M hd w) := by
  have HBS := Lib.hid hbs
  clear hbs
  obtain ⟨i0, hi, hz0, hz1, hz2⟩ := info_parts info_nptr
  have HT := Lib.hid h
  have TR := Lib.hid ht
  have LS := Lib.hid ht.start.1
  have CEE := Lib.hid hE
  have RI : Hid (∀ W, Below w.heap.size w W → Calls Tryz.prog 32 #[.agg (hdL hd).toArray] W fun e w' => e = .returned (.agg ((hdId hd).map bV).toArray) ∧ Below W.heap.size W w') := fun W hW => id_hd hd hh W (hk.below hW)
  have LC : Hid ((hdL hd).length = 68) := hdL_length hh
  have CW : Hid (∀ (W : World) (g : Nat), W.heap[g]? = some (.cells (hdL hd).toArray 27 (0, 0)) → W.cell? ⟨g, 66, none⟩ = some (.int .u32 (hd.work : Int))) := fun W g q => ((HdBox.mk q).cells hh).2.2.1
  have HW : Hid (hd.work ≤ 4294967295) := hh.2.2.2.2.1
  have CP : Hid (∀ (W : World) (g : Nat), W.heap[g]? = some (.cells (hdL hd).toArray 27 (0, 0)) → W.rangeAt g 1 (hd.prev.map bV)) := fun W g q => (HdBox.mk q).prev
  have LXN : Hid (∀ p, (cnL (nxT (ndM M) hd) p (.slice none 0 0)).length = 104) := fun p => cnL_length (hdId_length hd) hh
  have BN : Hid (∀ p, Tryz.prog.built 73 [(0, .agg ((hdId hd).map bV).toArray), (1, .agg (hdL hd).toArray), (2, .int .i64 (nxT (ndM M) hd).height), (3, .int .u64 ((nxT (ndM M) hd).work : Int)), (4, nptr p)] = some (cnL (nxT (ndM M) hd) p (.slice none 0 0)).toArray) := fun p => built_cn _ (nxT (ndM M) hd) p (hdId_length hd) hh rfl
  obtain ⟨oa, qa, hlka, hcaa⟩ := ct_look h ht (hdId hd) (hdId_length hd)
  obtain ⟨ob, qb, hlkb, hcab⟩ := ct_look h ht hd.prev hh.2.1
  have LKA := Lib.hid hlka
  have LKB := Lib.hid hlkb
  have CAA := Lib.hid hcaa
  have CAB := Lib.hid hcab
  obtain ⟨id, hid⟩ : ∃ id, id = hdId hd := ⟨_, rfl⟩
  have IDE := Lib.hid hid
  have LID : Hid (id.length = 32) := by show _ = _; rw [hid]; exact hdId_length hd
  rw [← hid] at RI BN LKA CAA
  have SCI : Hid ((id.map bV).toArray.size = 32) := by show _ = _; rw [List.size_toArray, List.length_map]; exact LID.out
  have OCI : Hid ((id.map bV).toArray.all (·.oneCell') = true) := bV_one _
  have LCI : Hid ((id.map bV).length = 32) := by show _ = _; rw [List.length_map]; exact LID.out
  obtain ⟨ci, hci⟩ : ∃ ci, ci = id.map bV := ⟨_, rfl⟩
  have CIE := Lib.hid hci
  rw [← hci] at RI BN SCI OCI LCI LKA
  have LCP : Hid ((hd.prev.map bV).length = 32) := by show _ = _; rw [List.length_map]; exact hh.2.1
  obtain ⟨cp, hcp⟩ : ∃ cp, cp = hd.prev.map bV := ⟨_, rfl⟩
  rw [← hcp] at CP LCP LKB
  obtain ⟨cs, hcs⟩ : ∃ cs, cs = hdL hd := ⟨_, rfl⟩
  rw [← hcs] at LC CW CP RI BN ⊢
  clear hh hk hid hci hcs hcp h ht hE hlka hlkb hcaa hcab
  go_enter Tryz.func9, Tryz.ntmps9
  go_upto_region 1 with fail
  have f0 := heap_alloc_new w (.cells cs.toArray 27 (0, 0))
  have bb : Below w.heap.size w (w.alloc (.cells cs.toArray 27 (0, 0))) := ((Below.refl w.heap.size w).alloc (by first | exact Nat.le_refl _ | (simp only [World.size_alloc]; omega)) (.cells cs.toArray 27 (0, 0)))
  generalize hq : World.alloc _ _ = w1
  have eq : w.alloc (.cells cs.toArray 27 (0, 0)) = w1 := hq
  rw [eq] at f0 bb
  obtain ⟨g3, hg3⟩ : ∃ g3, g3 = w.heap.size := ⟨_, rfl⟩
  have Gg3 : Hid (w.heap.size ≤ g3) := by show _ ≤ _; omega
  rw [← hg3] at f0 ⊢
  have F3 := Lib.hid f0
  have B1 := Lib.hid bb
  clear f0 bb hq eq hg3
  go_wp2_with ((with_reducible show wpList _ _ _ _ _ _); (refine wpList_load_row rfl 27 (.tmp 3) rfl g3 rfl 27 cs.toArray (0, 0) _ F3.out Tryz.underlying27 rfl (by show _ = some cs.length; rw [LC.out] <;> kernel_rfl) ?_; go_frame))
  refine (RI.out w1 B1.out).mono ?_
  rintro e w2 ⟨rfl, bb⟩
  have F3 := Lib.hid (row_below F3.out bb)
  have B1 := Lib.hid (B1.out.trans (bb.mono B1.out.size))
  clear bb RI
  go_upto_region 2 with ((with_reducible show wpList _ _ _ _ _ _); (refine wpList_store_row rfl 25 (.tmp 5) (.tmp 12) rfl w2.heap.size ci.toArray rfl rfl 25 _ (heap_alloc_new _ _) (by rw [SCI.out]; kernel_rfl) (by rw [SCI.out]; rfl) OCI.out ?_; go_frame))
  obtain ⟨_, f2, f3, f4⟩ := fill_setup (Below.refl w2.heap.size w2) (List.replicate 32 (bV 0)).toArray ci.toArray 25
  generalize hqw3 : World.setRow _ _ _ = w3
  have ew3 : World.setRow (w2.alloc (.cells (List.replicate 32 (bV 0)).toArray 25)) w2.heap.size ci.toArray = w3 := hqw3
  rw [ew3] at f2 f3 f4
  obtain ⟨g5, hg5⟩ : ∃ g5, g5 = w2.heap.size := ⟨_, rfl⟩
  rw [← hg5] at f2 ⊢
  have F5 := Lib.hid f2
  have Ng5 : Hid (w2.heap.size ≤ g5) := by show _ ≤ _; rw [hg5]; exact Nat.le_refl _
  have F3 := Lib.hid (row_below F3.out f4)
  have B1 := Lib.hid (B1.out.trans (f4.mono B1.out.size))
  clear f2 f3 f4 hqw3 ew3 hg5
  refine wp_region_held_drew (S := (fun w' => Below w3.heap.size w3 w')) (by kernel_rfl) (Below.drew (Below.refl _ _)) (fun hHeld => ?_)
  generalize hwd : w3.drew = wd at  hHeld ⊢
  clear hwd
  refine held_take (i := 0) (v := (.pointer (some ⟨b, 0, none⟩))) rfl (by kernel_rfl) (by kernel_rfl) (by kernel_rfl) (fun _ _ _ h => h) (Or.inl ⟨by rfl, fun w' _ => by kernel_rfl⟩) hHeld ?_
  go_frame
  refine held_take (i := 1) (v := (.pointer (some ⟨b, 0, none⟩))) rfl (by kernel_rfl) (by kernel_rfl) (by kernel_rfl) (fun _ _ _ h => h) (Or.inl ⟨by rfl, fun w' _ => by kernel_rfl⟩) hHeld ?_
  go_frame
  refine held_take (i := 2) (v := (.pointer (some ⟨b, 32, none⟩))) rfl (by kernel_rfl) (by kernel_rfl) (by kernel_rfl) (fun _ _ _ h => h) (Or.inl ⟨by rfl, fun w' _ => by kernel_rfl⟩) hHeld ?_
  go_frame
  refine held_take (i := 3) (v := (.map (some mb))) rfl (by kernel_rfl) (by kernel_rfl) (by kernel_rfl) (fun _ _ _ h => h) (yieldsIf_load_one (by rfl) 74 (.tmp 16) rfl b (32) rfl _ _ (fun w' hw' => (HT.out.below (B1.out.trans (hw'.mono B1.out.size))).mcell LS.out) Tryz.underlying74 rfl) hHeld ?_
  go_frame
  refine held_take (i := 4) (v := (.agg ci.toArray)) rfl (by kernel_rfl) (by kernel_rfl) (by kernel_rfl) (fun _ _ _ h => h) (yieldsIf_load_row (by rfl) 25 (.tmp 5) rfl g5 rfl 25 ci.toArray (0, 0) _ (fun w' hw' => row_below F5.out hw') Tryz.underlying25 rfl (by show _ = some ci.length; rw [LCI.out]; kernel_rfl)) hHeld ?_
  go_frame
  refine held_take (i := 5) (v := (.tuple #[oa, .bool qa])) rfl (by kernel_rfl) (by kernel_rfl) (by kernel_rfl) (fun _ _ _ h => h) (yieldsIf_lookup (by rfl) 74 (.tmp 17) (.tmp 18) true rfl _ _ _ rfl rfl (fun w' hw' => LKA.out w' (B1.out.trans (hw'.mono B1.out.size)))) hHeld ?_
  go_frame
  refine held_take (i := 6) (v := (.tuple #[oa, .bool qa])) rfl (by kernel_rfl) (by kernel_rfl) (by kernel_rfl) (fun _ _ _ h => h) (Or.inl ⟨by rfl, fun w' _ => by kernel_rfl⟩) hHeld ?_
  go_frame
  refine held_take (i := 7) (v := oa) rfl (by kernel_rfl) (by kernel_rfl) (by kernel_rfl) (fun _ _ _ h => h) (Or.inl ⟨by rfl, fun w' _ => by kernel_rfl⟩) hHeld ?_
  go_frame
  refine held_take (i := 8) (v := (.bool qa)) rfl (by kernel_rfl) (by kernel_rfl) (by kernel_rfl) (fun _ _ _ h => h) (Or.inl ⟨by rfl, fun w' _ => by kernel_rfl⟩) hHeld ?_
  go_frame
  refine held_take (i := 9) (v := oa) rfl (by kernel_rfl) (by kernel_rfl) (by kernel_rfl) (fun _ _ _ h => h) (Or.inl ⟨by rfl, fun w' _ => by kernel_rfl⟩) hHeld ?_
  go_frame
  refine held_take (i := 10) (v := (.bool qa)) rfl (by kernel_rfl) (by kernel_rfl) (by kernel_rfl) (fun _ _ _ h => h) (Or.inl ⟨by rfl, fun w' _ => by kernel_rfl⟩) hHeld ?_
  go_frame
  refine wpAnyH_done (by kernel_rfl) ?_ _
  obtain ⟨v9, hv9⟩ : ∃ v9, v9 = wd := ⟨_, rfl⟩
  rw [← hv9] at  hHeld ⊢
  clear hv9
  have F3 := Lib.hid (row_below F3.out hHeld)
  have F5 := Lib.hid (row_below F5.out hHeld)
  have B2 := Lib.hid (B1.out.trans (hHeld.mono B1.out.size))
  clear hHeld LKA B1
  have ck := (CEE.out.below B2.out).known
  rcases CAA.out with ⟨h1, rfl, rfl⟩ | ⟨k, c, h1, h2, h3, rfl, rfl⟩
  case inr =>
    have AE : Hid (addE (ndM M) hd = 109) := by show _ = _; unfold addE; rw [← IDE.out, if_pos (by omega)]
    clear h1 h2 h3
    go_wp2_with fail
    go_ret
    exact ⟨by rw [AE.out]; rfl, fun _ => B2.out, fun e => absurd e (by rw [AE.out]; decide)⟩
  case inl =>
    have N1 := Lib.hid h1
    clear h1 ck
    go_upto_region 5 with fail
    refine wp_region_held_drew (S := (fun w' => Below v9.heap.size v9 w')) (by kernel_rfl) (Below.drew (Below.refl _ _)) (fun hHeld => ?_)
    generalize hwd : v9.drew = wd at  hHeld ⊢
    clear hwd
    refine held_take (i := 0) (v := (.pointer (some ⟨b, 0, none⟩))) rfl (by kernel_rfl) (by kernel_rfl) (by kernel_rfl) (fun _ _ _ h => h) (Or.inl ⟨by rfl, fun w' _ => by kernel_rfl⟩) hHeld ?_
    go_frame
    refine held_take (i := 1) (v := (.pointer (some ⟨b, 0, none⟩))) rfl (by kernel_rfl) (by kernel_rfl) (by kernel_rfl) (fun _ _ _ h => h) (Or.inl ⟨by rfl, fun w' _ => by kernel_rfl⟩) hHeld ?_
    go_frame
    refine held_take (i := 2) (v := (.pointer (some ⟨b, 32, none⟩))) rfl (by kernel_rfl) (by kernel_rfl) (by kernel_rfl) (fun _ _ _ h => h) (Or.inl ⟨by rfl, fun w' _ => by kernel_rfl⟩) hHeld ?_
    go_frame
    refine held_take (i := 3) (v := (.map (some mb))) rfl (by kernel_rfl) (by kernel_rfl) (by kernel_rfl) (fun _ _ _ h => h) (yieldsIf_load_one (by rfl) 74 (.tmp 27) rfl b (32) rfl _ _ (fun w' hw' => (HT.out.below (B2.out.trans (hw'.mono B2.out.size))).mcell LS.out) Tryz.underlying74 rfl) hHeld ?_
    go_frame
    refine held_take (i := 4) (v := (.pointer (some ⟨g3, 1, none⟩))) rfl (by kernel_rfl) (by kernel_rfl) (by kernel_rfl) (fun _ _ _ h => h) (Or.inl ⟨by rfl, fun w' _ => by kernel_rfl⟩) hHeld ?_
    go_frame
    refine held_take (i := 5) (v := (.agg cp.toArray)) rfl (by kernel_rfl) (by kernel_rfl) (by kernel_rfl) (fun _ _ _ h => h) (Sha.yieldsIf_load_mid (by rfl) 25 (.tmp 29) rfl g3 (1) rfl cp _ (fun w' hw' => CP.out _ _ (row_below F3.out hw')) Tryz.underlying25 rfl (by rw [LCP.out]; kernel_rfl)) hHeld ?_
    go_frame
    refine held_take (i := 6) (v := (.tuple #[ob, .bool qb])) rfl (by kernel_rfl) (by kernel_rfl) (by kernel_rfl) (fun _ _ _ h => h) (yieldsIf_lookup (by rfl) 74 (.tmp 28) (.tmp 30) true rfl _ _ _ rfl rfl (fun w' hw' => LKB.out w' (B2.out.trans (hw'.mono B2.out.size)))) hHeld ?_
    go_frame
    refine held_take (i := 7) (v := (.tuple #[ob, .bool qb])) rfl (by kernel_rfl) (by kernel_rfl) (by kernel_rfl) (fun _ _ _ h => h) (Or.inl ⟨by rfl, fun w' _ => by kernel_rfl⟩) hHeld ?_
    go_frame
    refine held_take (i := 8) (v := ob) rfl (by kernel_rfl) (by kernel_rfl) (by kernel_rfl) (fun _ _ _ h => h) (Or.inl ⟨by rfl, fun w' _ => by kernel_rfl⟩) hHeld ?_
    go_frame
    refine held_take (i := 9) (v := (.bool qb)) rfl (by kernel_rfl) (by kernel_rfl) (by kernel_rfl) (fun _ _ _ h => h) (Or.inl ⟨by rfl, fun w' _ => by kernel_rfl⟩) hHeld ?_
    go_frame
    refine held_take (i := 10) (v := ob) rfl (by kernel_rfl) (by kernel_rfl) (by kernel_rfl) (fun _ _ _ h => h) (Or.inl ⟨by rfl, fun w' _ => by kernel_rfl⟩) hHeld ?_
    go_frame
    refine held_take (i := 11) (v := (.bool qb)) rfl (by kernel_rfl) (by kernel_rfl) (by kernel_rfl) (fun _ _ _ h => h) (Or.inl ⟨by rfl, fun w' _ => by kernel_rfl⟩) hHeld ?_
    go_frame
    refine wpAnyH_done (by kernel_rfl) ?_ _
    obtain ⟨v8, hv8⟩ : ∃ v8, v8 = wd := ⟨_, rfl⟩
    rw [← hv8] at  hHeld ⊢
    clear hv8
    have F3 := Lib.hid (row_below F3.out hHeld)
    have F5 := Lib.hid (row_below F5.out hHeld)
    have B3 := Lib.hid (B2.out.trans (hHeld.mono B2.out.size))
    clear hHeld LKB B2
    have ck := (CEE.out.below B3.out).parent
    rcases CAB.out with ⟨h1, rfl, rfl⟩ | ⟨k, c, h1, h2, h3, rfl, rfl⟩
    case inl =>
      have AE : Hid (addE (ndM M) hd = 110) := by show _ = _; unfold addE; rw [← IDE.out, N1.out, if_neg (by decide), h1, if_pos (by decide)]
      clear h1
      go_wp2_with fail
      go_ret
      exact ⟨by rw [AE.out]; rfl, fun _ => B3.out, fun e => absurd e (by rw [AE.out]; decide)⟩
    case inr =>
      clear ck
      have N2 := Lib.hid h1
      have HC := Lib.hid h2
      have HTB := Lib.hid (HT.out.below B3.out)
      have hq := fun ty => gm_len mty_nodes HTB.out.mp ty
      have c32 := HTB.out.mcell LS.out
      have ck := (CEE.out.below B3.out).full
      have EL : (idsM M).length = (ndM M).length := by unfold idsM ndM; rw [List.length_map, List.length_map]
      rw [EL] at hq
      obtain ⟨n, hn⟩ : ∃ n, n = (ndM M).length := ⟨_, rfl⟩
      rw [← hn] at hq
      have LN := Lib.hid hn
      clear EL hn h1 h2 h3
      by_cases hfull : 4096 ≤ n
      · have AE : Hid (addE (ndM M) hd = 121) := by show _ = _; unfold addE; rw [← IDE.out, N1.out, if_neg (by decide), N2.out, if_neg (by omega), if_pos (by rw [← LN.out]; exact hfull)]
        have q1 : (4096 : Int) ≤ (n : Int) := by omega
        go_wp2_with fail
        go_ret
        exact ⟨by rw [AE.out]; rfl, fun _ => B3.out, fun e => absurd e (by rw [AE.out]; decide)⟩
      · have AE : Hid (addE (ndM M) hd = 0) := by show _ = _; unfold addE; rw [← IDE.out, N1.out, if_neg (by decide), N2.out, if_neg (by omega), if_neg (by rw [← LN.out]; exact hfull)]
        have q1 : (n : Int) < 4096 := by omega
        have QN := Lib.hid q1
        go_upto_region 10 with fail
        clear hq c32 ck hfull q1
        have NXH : Hid ((nxT (ndM M) hd).height = c.nd.height + 1) := by show _ = _; unfold nxT; rw [N2.out]; simp only [getD_int (ndM_at HC.out)]
        have NXW : Hid ((nxT (ndM M) hd).work = (c.nd.work + hd.work) % 18446744073709551616) := by show _ = _; unfold nxT; rw [N2.out]; simp only [getD_int (ndM_at HC.out)]
        have NXP : Hid ((nxT (ndM M) hd).parent = (k : Int)) := N2.out
        have NXI : Hid ((nxT (ndM M) hd).id = id) := IDE.out.symm
        have XH : Hid (0 ≤ c.nd.height ∧ c.nd.height ≤ 4096 ∧ c.nd.work ≤ 18446744073709551615) := by
          have ok := TR.out.ok _ (List.mem_of_getElem? (ndM_at HC.out))
          exact ⟨ok.2.2.2.2.1, ok.2.2.2.2.2.1, ok.2.2.2.2.2.2⟩
        have CC : Hid (∀ U, Below v8.heap.size v8 U → U.cell? ⟨c.ad, 100, none⟩ = some (.int .i64 c.nd.height) ∧ U.cell? ⟨c.ad, 101, none⟩ = some (.int .u64 (c.nd.work : Int)) ∧ U.cell? ⟨c.ad, 102, none⟩ = some (nptr (cnP M c.nd.parent)) ∧ U.cell? ⟨c.ad, 103, none⟩ = some c.kids) := fun U hU => HT.out.cells TR.out HC.out (B3.out.trans (hU.mono B3.out.size))
        have BN := Lib.hid (BN.out (some c.ad))
        have LXN := Lib.hid (LXN.out (some c.ad))
        obtain ⟨nx, hnx⟩ : ∃ nx, nx = nxT (ndM M) hd := ⟨_, rfl⟩
        rw [← hnx] at BN LXN NXH NXW NXP NXI
        have NXE := Lib.hid hnx
        rw [NXH.out, NXW.out] at BN
        obtain ⟨wk, hwk⟩ : ∃ wk, wk = (c.nd.work + hd.work) % 18446744073709551616 := ⟨_, rfl⟩
        rw [← hwk] at BN
        have WKE := Lib.hid hwk
        obtain ⟨cx, hcx⟩ : ∃ cx, cx = cnL nx (some c.ad) (.slice none 0 0) := ⟨_, rfl⟩
        rw [← hcx] at BN LXN
        have CXE := Lib.hid hcx
        have BN2 : Hid (Tryz.prog.built 73 [(0, .agg ci.toArray), (1, .agg cs.toArray), (2, .int .i64 (c.nd.height + 1)), (3, .int .u64 (wk : Int)), (4, .pointer (some ⟨c.ad, 0, none⟩))] = some cx.toArray) := BN.out
        obtain ⟨H, hH⟩ : ∃ H, H = c.nd.height := ⟨_, rfl⟩
        obtain ⟨wp, hwp⟩ : ∃ wp, wp = c.nd.work := ⟨_, rfl⟩
        rw [← hH, ← hwp] at CC XH
        rw [← hH] at BN2 NXH
        rw [← hwp] at WKE
        clear hnx hwk hcx hH hwp BN
        refine wp_region_held_drew (S := (fun w' => Below v8.heap.size v8 w')) (by kernel_rfl) (Below.drew (Below.refl _ _)) (fun hHeld => ?_)
        generalize hwd : v8.drew = wd at  hHeld ⊢
        clear hwd
        refine held_take (i := 0) (v := (.agg ci.toArray)) rfl (by kernel_rfl) (by kernel_rfl) (by kernel_rfl) (fun _ _ _ h => h) (yieldsIf_load_row (by rfl) 25 (.tmp 5) rfl g5 rfl 25 ci.toArray (0, 0) _ (fun w' hw' => row_below F5.out hw') Tryz.underlying25 rfl (by show _ = some ci.length; rw [LCI.out]; kernel_rfl)) hHeld ?_
        go_frame
        refine held_take (i := 1) (v := (.agg cs.toArray)) rfl (by kernel_rfl) (by kernel_rfl) (by kernel_rfl) (fun _ _ _ h => h) (yieldsIf_load_row (by rfl) 27 (.tmp 3) rfl g3 rfl 27 cs.toArray (0, 0) _ (fun w' hw' => row_below F3.out hw') Tryz.underlying27 rfl (by show _ = some cs.length; rw [LC.out]; kernel_rfl)) hHeld ?_
        go_frame
        refine held_take (i := 2) (v := (.pointer (some ⟨c.ad, 0, none⟩))) rfl (by kernel_rfl) (by kernel_rfl) (by kernel_rfl) (fun _ _ _ h => h) (Or.inl ⟨by rfl, fun w' _ => by kernel_rfl⟩) hHeld ?_
        go_frame
        refine held_take (i := 3) (v := (.pointer (some ⟨c.ad, 0, none⟩))) rfl (by kernel_rfl) (by kernel_rfl) (by kernel_rfl) (fun _ _ _ h => h) (Or.inl ⟨by rfl, fun w' _ => by kernel_rfl⟩) hHeld ?_
        go_frame
        refine held_take (i := 4) (v := (.pointer (some ⟨c.ad, 100, none⟩))) rfl (by kernel_rfl) (by kernel_rfl) (by kernel_rfl) (fun _ _ _ h => h) (Or.inl ⟨by rfl, fun w' _ => by kernel_rfl⟩) hHeld ?_
        go_frame
        refine held_take (i := 5) (v := (.int .i64 H)) rfl (by kernel_rfl) (by kernel_rfl) (by kernel_rfl) (fun _ _ _ h => h) (yieldsIf_load_one (by rfl) 3 (.tmp 48) rfl c.ad (100) rfl _ _ (fun w' hw' => (CC.out w' hw').1) Tryz.underlying3 rfl) hHeld ?_
        go_frame
        refine held_take (i := 6) (v := (.int .i64 (H + 1))) rfl (by kernel_rfl) (by kernel_rfl) (by kernel_rfl) (fun _ _ _ h => h) (Or.inl ⟨by rfl, fun w' _ => by go_simp; have := XH.out; rw [IntKind.wrap_i64]; omega⟩) hHeld ?_
        go_frame
        refine held_take (i := 7) (v := (.pointer (some ⟨c.ad, 0, none⟩))) rfl (by kernel_rfl) (by kernel_rfl) (by kernel_rfl) (fun _ _ _ h => h) (Or.inl ⟨by rfl, fun w' _ => by kernel_rfl⟩) hHeld ?_
        go_frame
        refine held_take (i := 8) (v := (.pointer (some ⟨c.ad, 0, none⟩))) rfl (by kernel_rfl) (by kernel_rfl) (by kernel_rfl) (fun _ _ _ h => h) (Or.inl ⟨by rfl, fun w' _ => by kernel_rfl⟩) hHeld ?_
        go_frame
        refine held_take (i := 9) (v := (.pointer (some ⟨c.ad, 101, none⟩))) rfl (by kernel_rfl) (by kernel_rfl) (by kernel_rfl) (fun _ _ _ h => h) (Or.inl ⟨by rfl, fun w' _ => by kernel_rfl⟩) hHeld ?_
        go_frame
        refine held_take (i := 10) (v := (.int .u64 (wp : Int))) rfl (by kernel_rfl) (by kernel_rfl) (by kernel_rfl) (fun _ _ _ h => h) (yieldsIf_load_one (by rfl) 45 (.tmp 53) rfl c.ad (101) rfl _ _ (fun w' hw' => (CC.out w' hw').2.1) Tryz.underlying45 rfl) hHeld ?_
        go_frame
        refine held_take (i := 11) (v := (.pointer (some ⟨g3, 66, none⟩))) rfl (by kernel_rfl) (by kernel_rfl) (by kernel_rfl) (fun _ _ _ h => h) (Or.inl ⟨by rfl, fun w' _ => by kernel_rfl⟩) hHeld ?_
        go_frame
        refine held_take (i := 12) (v := (.int .u32 (hd.work : Int))) rfl (by kernel_rfl) (by kernel_rfl) (by kernel_rfl) (fun _ _ _ h => h) (yieldsIf_load_one (by rfl) 23 (.tmp 55) rfl g3 (66) rfl _ _ (fun w' hw' => CW.out _ _ (row_below F3.out hw')) Tryz.underlying23 rfl) hHeld ?_
        go_frame
        refine held_take (i := 13) (v := (.int .u64 (hd.work : Int))) rfl (by kernel_rfl) (by kernel_rfl) (by kernel_rfl) (fun _ _ _ h => h) (Or.inl ⟨by rfl, fun w' _ => by go_simp; have := HW.out; rw [IntKind.wrap_u64]; omega⟩) hHeld ?_
        go_frame
        refine held_take (i := 14) (v := (.int .u64 (wk : Int))) rfl (by kernel_rfl) (by kernel_rfl) (by kernel_rfl) (fun _ _ _ h => h) (Or.inl ⟨by rfl, fun w' _ => by go_simp; rw [WKE.out, IntKind.wrap_u64]; omega⟩) hHeld ?_
        go_frame
        refine held_take (i := 15) (v := (.pointer (some ⟨c.ad, 0, none⟩))) rfl (by kernel_rfl) (by kernel_rfl) (by kernel_rfl) (fun _ _ _ h => h) (Or.inl ⟨by rfl, fun w' _ => by kernel_rfl⟩) hHeld ?_
        go_frame
        refine held_take (i := 16) (v := (.agg cx.toArray)) rfl (by kernel_rfl) (by kernel_rfl) (by kernel_rfl) (fun _ _ _ h => h) (yieldsIf_build (by rfl) 73 _ rfl [(0, .agg ci.toArray), (1, .agg cs.toArray), (2, .int .i64 (H + 1)), (3, .int .u64 (wk : Int)), (4, .pointer (some ⟨c.ad, 0, none⟩))] (by kernel_rfl) _ BN2.out) hHeld ?_
        go_frame
        refine wpAnyH_ready (rs := [17]) (by kernel_rfl) (by simp) (held_cons rfl (fun K hK => ?_) AllReadyH.nil)
        go_simp
        have nf := heap_alloc_new wd (.cells (cx).toArray 73 (0, 0))
        have bb := (Below.refl wd.heap.size wd).alloc (Nat.le_refl _) (.cells (cx).toArray 73 (0, 0))
        obtain ⟨gv1, hgv1⟩ : ∃ g, g = wd.heap.size := ⟨_, rfl⟩
        have GNF : Hid (v8.heap.size ≤ gv1) := by show _ ≤ _; rw [hgv1]; exact hHeld.size
        generalize hqv1 : World.alloc _ _ = v1
        have ev1 : wd.alloc (.cells (cx).toArray 73 (0, 0)) = v1 := hqv1
        rw [ev1] at nf bb
        rw [← hgv1] at nf ⊢
        have NF := Lib.hid nf
        have hv1 := hHeld.trans (bb.mono hHeld.size)
        clear nf bb hqv1 ev1 hgv1 hHeld
        refine hK.out _ _ hv1 (fun hHeld => ?_)
        clear hK K hv1
        refine held_take (i := 18) (v := (.pointer (some ⟨gv1, 0, none⟩))) rfl (by kernel_rfl) (by kernel_rfl) (by kernel_rfl) (fun _ _ _ h => h) (Or.inl ⟨by rfl, fun w' _ => by kernel_rfl⟩) hHeld ?_
        go_frame
        refine wpAnyH_done (by kernel_rfl) ?_ _
        obtain ⟨v7, hv7⟩ : ∃ v7, v7 = v1 := ⟨_, rfl⟩
        rw [← hv7] at NF hHeld ⊢
        clear hv7
        have F5 := Lib.hid (row_below F5.out hHeld)
        have B4 := Lib.hid (B3.out.trans (hHeld.mono B3.out.size))
        have c103 := (CC.out v7 hHeld).2.2.2
        have GN : Hid (w.heap.size ≤ gv1) := by have := GNF.out; have := B3.out.size; show _ ≤ _; omega
        clear hHeld CC F3 B3
        have BS7 : Hid (base ≤ v7.heap.size) := Nat.le_trans HBS.out B4.out.size
        have HT7 := Lib.hid (HT.out.below B4.out)
        have RK := Lib.hid (HT7.out.kid k c HC.out)
        have NOD := Lib.hid (HT7.out.node k c HC.out)
        have NE5 : Hid (c.ad ≠ g5) := fun e => by
          have q := NOD.out
          rw [e, F5.out] at q
          injection q with q
          injection q with _ q _
          exact absurd q (by decide)
        have NEG : Hid (c.ad ≠ gv1) := by
          have h1 := (Array.getElem?_eq_some_iff.1 (HTB.out.node k c HC.out)).1
          have := GNF.out
          show _ ≠ _
          omega
        have NEM : Hid (mb ≠ c.ad) := fun e => HT.out.mp.ne (HT.out.node k c HC.out) e.symm
        have NG : Hid (putG (idsM M) id (some gv1) = idsM M ++ [(id, some gv1)]) := by
          have h1 : ∀ x ∈ ndM M, x.id ≠ id := by
            rcases findT_cases (ndM M) id with ⟨_, h⟩ | ⟨q, x, h, _⟩
            · exact h
            · have := N1.out; omega
          show _ = _
          unfold putG
          rw [getG_ids_none h1]
          rfl
        obtain ⟨A, hA⟩ : ∃ A, A = c.nd.id.map bV ++ (hdL c.nd.h ++ [.int .i64 c.nd.height, .int .u64 (c.nd.work : Int), nptr (cnP M c.nd.parent)]) := ⟨_, rfl⟩
        have CL : Hid (∀ v, (A ++ [v] ++ []).toArray = (cnL c.nd (cnP M c.nd.parent) v).toArray) := fun v => by rw [hA]; unfold cnL; simp
        have PL : Hid (A.length = 103) := by
          have ok := TR.out.ok _ (List.mem_of_getElem? (ndM_at HC.out))
          show _ = _
          rw [hA, List.length_append, List.length_append, List.length_map, ok.1, hdL_length ok.2.1]
          rfl
        have NODX : Hid (v7.heap[c.ad]? = some (.cells (A ++ [c.kids] ++ []).toArray 73 (0, 0))) := by show _ = _; rw [CL.out]; exact NOD.out
        obtain ⟨L, hL⟩ : ∃ L, L = kidsM M k := ⟨_, rfl⟩
        have LE := Lib.hid hL
        rw [← hL] at RK
        have DL : Hid (L.length ≤ 4096) := by
          show _ ≤ _
          rw [hL]
          unfold kidsM kidsI
          rw [List.length_map]
          refine Nat.le_trans (List.length_filter_le _ _) ?_
          rw [List.length_range, ← LN.out]
          have := QN.out
          omega
        clear hL hA
        go_upto_region 12 with (first | ((with_reducible show wpList _ _ _ _ _ _); (refine wpList_store_part rfl 71 (.tmp 71) (.tmp 69) rfl c.ad 103 A [c.kids] [] [nv] 73 nv rfl rfl (cells_one VO.out) PL.out rfl NOD2.out (by kernel_rfl) (one_mem VO.out) ?_; intro w9 q1 q2; have NOD3 : Hid (w9.heap[c.ad]? = some (.cells (cnL c.nd (cnP M c.nd.parent) nv).toArray 73 (0, 0))) := (by show _ = _; rw [q1, CL.out nv]); have RK3 := Lib.hid (RK2.out.kept q2 (.inr (own_ne' RK2.out.1 NOD2.out (by decide)))); have NF3 := Lib.hid (row_far NF2.out q2 (fun e => NEG.out (Option.some.inj e))); have KP3 := Lib.hid (KP2.out.trans (Kps.grown q2 fun j _ hj e => hj.1 (Option.some.inj e))); have F53 := Lib.hid (row_far F52.out q2 (fun e => NE5.out (Option.some.inj e))); clear q1 q2; go_frame)) | (at_builtin; refine wpList_append_own_at _ rfl _ _ 71 rfl base 70 i0 (.pointer none) 1 8 Tryz.underlying71 hi hz0 hz1 hz2 (by kernel_rfl) (by decide) c.kids _ L.flatten rfl (RK.out.1.alloc _) ⟨v7.heap.size, 0, none⟩ 1 1 [(.pointer (some ⟨gv1, 0, none⟩))] rfl rfl (cell_one_new _ _ _) (fun u hu => by rcases List.mem_singleton.1 hu with rfl; rfl) (by have := DL.out; unfold maxLen; omega) (by have := DL.out; omega) (by simp only [World.size_alloc]; have := BS7.out; omega) ?_; intro nv w8 q1 q2 _ q4; have VO := Lib.hid (own_one q1); have RK2 : Hid (RwOwn 1 70 base w8 nv (L ++ [[(.pointer (some ⟨gv1, 0, none⟩))]])) := RwOwn.push RK.out.2 rfl q1; have q0 := (Below.refl v7.heap.size v7).alloc (Nat.le_refl _) (.cells #[(.pointer (some ⟨gv1, 0, none⟩))] 70); have NOD2 := Lib.hid (row_far (row_below NODX.out q0) q2 (own_ne' RK.out.1 NOD.out (by decide))); have NF2 := Lib.hid (row_far (row_below NF.out q0) q2 (own_ne' RK.out.1 NF.out (by decide))); have F52 := Lib.hid (row_far (row_below F5.out q0) q2 (own_ne' RK.out.1 F5.out (by decide))); have KP2 := Lib.hid (((Kps.new (F := fun j => j ≠ c.ad ∧ c.kids.ownBlock ≠ some j) B4.out).trans (Kps.new q0)).trans (Kps.grown q2 fun j _ hj e => hj.2 e.symm)); have Q4 := Lib.hid q4; clear q1 q2 q4 q0; go_frame))
        have OWB : Hid (nv.ownBlock = c.kids.ownBlock ∨ ∃ q, nv.ownBlock = some q ∧ w.heap.size ≤ q) := by
          rcases Q4.out with e | e
          · exact .inl e
          · exact .inr ⟨_, e, by simp only [World.size_alloc]; have := B4.out.size; omega⟩
        have MP9 := Lib.hid (HT.out.mp.kps KP3.out ⟨NEM.out, own_nemap HT.out.mp (HT.out.kid k c HC.out).1⟩)
        have BX9 := Lib.hid (row_kps HT.out.box KP3.out ⟨fun e => by
          have q := HT.out.node k c HC.out
          rw [← e, HT.out.box] at q
          injection q with q
          injection q with _ q _
          exact absurd q (by decide), own_ne' (HT.out.kid k c HC.out).1 HT.out.box (by decide)⟩)
        have MC9 : Hid (w9.cell? ⟨b, 32, none⟩ = some (.map (some mb))) := by
          show _ = _
          rw [cell_of_row _ _ _ _ _ _ BX9.out, List.getElem?_toArray, List.getElem?_append_right (by rw [List.length_map, LS.out]; exact Nat.le_refl _), List.length_map, LS.out]
          rfl
        clear Q4 RK RK2 NOD NODX NOD2 NF NF2 F5 F52 KP2 c103 BX9 HT7 HTB NE5 CL PL B4
        refine wp_region_end (fun w' => Below w9.heap.size w9 w') [6] (by kernel_rfl) (Below.drew (Below.refl _ _)) (fun hHeld => ?_)
        generalize hwd : w9.drew = wd at  hHeld ⊢
        clear hwd
        refine end_take (i := 0) (v := (.pointer (some ⟨b, 0, none⟩))) rfl (by kernel_rfl) (by kernel_rfl) (by kernel_rfl) (by kernel_rfl) (fun _ _ _ h => h) (Or.inl ⟨by rfl, fun w' _ => by kernel_rfl⟩) hHeld ?_
        go_frame
        refine end_take (i := 1) (v := (.pointer (some ⟨b, 0, none⟩))) rfl (by kernel_rfl) (by kernel_rfl) (by kernel_rfl) (by kernel_rfl) (fun _ _ _ h => h) (Or.inl ⟨by rfl, fun w' _ => by kernel_rfl⟩) hHeld ?_
        go_frame
        refine end_take (i := 2) (v := (.pointer (some ⟨b, 32, none⟩))) rfl (by kernel_rfl) (by kernel_rfl) (by kernel_rfl) (by kernel_rfl) (fun _ _ _ h => h) (Or.inl ⟨by rfl, fun w' _ => by kernel_rfl⟩) hHeld ?_
        go_frame
        refine end_take (i := 3) (v := (.map (some mb))) rfl (by kernel_rfl) (by kernel_rfl) (by kernel_rfl) (by kernel_rfl) (fun _ _ _ h => h) (yieldsIf_load_one (by rfl) 74 (.tmp 74) rfl b (32) rfl _ _ (fun w' hw' => cell_below MC9.out hw') Tryz.underlying74 rfl) hHeld ?_
        go_frame
        refine end_take (i := 4) (v := (.agg ci.toArray)) rfl (by kernel_rfl) (by kernel_rfl) (by kernel_rfl) (by kernel_rfl) (fun _ _ _ h => h) (yieldsIf_load_row (by rfl) 25 (.tmp 5) rfl g5 rfl 25 ci.toArray (0, 0) _ (fun w' hw' => row_below F53.out hw') Tryz.underlying25 rfl (by show _ = some ci.length; rw [LCI.out]; kernel_rfl)) hHeld ?_
        go_frame
        refine end_take (i := 5) (v := (.pointer (some ⟨gv1, 0, none⟩))) rfl (by kernel_rfl) (by kernel_rfl) (by kernel_rfl) (by kernel_rfl) (fun _ _ _ h => h) (Or.inl ⟨by rfl, fun w' _ => by kernel_rfl⟩) hHeld ?_
        go_frame
        refine end_last (i := 6) (by kernel_rfl) (by kernel_rfl) rfl (fun K hK => ?_)
        rw [if_pos (by rfl)]
        refine wp_put_gm mty_nodes (.tmp 75) (.tmp 76) (.tmp 77) rfl id LID.out (some gv1) rfl (by show Value.agg ci.toArray = Sha.hK id; rw [CIE.out]; rfl) rfl (MP9.out.below hHeld) ?_
        intro v1 q1 q2
        rw [NG.out] at q1
        have KPF : Hid (Kps (fun j => j ≠ mb ∧ j ≠ c.ad ∧ c.kids.ownBlock ≠ some j) w v1) := ((KP3.out.mono fun _ _ h => h.2).trans (Kps.new hHeld)).trans (Kps.grown q2 fun j _ hj e => hj.1 (Option.some.inj e))
        have CTP := Lib.hid (HT.out.push TR.out.down HC.out NXP.out KPF.out GN.out HBS.out (row_far (row_below NOD3.out hHeld) q2 (fun e => NEM.out (Option.some.inj e))) (by rw [← LE.out]; exact (RK3.out.keep hHeld).kept q2 (.inr (own_nemap MP9.out RK3.out.1))) (by have h := row_far (row_below NF3.out hHeld) q2 (fun e => (MP9.out.ne NF3.out) (Option.some.inj e).symm); rw [CXE.out] at h; exact h) OWB.out (by rw [NXI.out]; exact q1))
        clear q1 q2 hHeld
        go_frame
        refine hK.out _ _ ?_
        clear hK K
        refine end_done (by kernel_rfl) ?_ _
        go_wp2_with fail
        go_ret
        exact ⟨by rw [AE.out]; rfl, fun e => absurd AE.out e, fun _ => ⟨_, by rw [pushM_nd, NXE.out], CTP.out, KPF.out.mono fun j _ hj => ⟨hj.1, hj.2 c (List.mem_of_getElem? HC.out)⟩⟩⟩
end Go.Proofs.YtbgagaaoldjhnaaGreatDoor.Sha

/-
  The reference's tree: an ancestor of a height, how many there are. Conditions: the tree lies where it should.
-/
namespace Go.Proofs.YtbgagaaoldjhnaaGreatDoor.Sha
open Go Go.RowKit
def AnInvR (L : List TNd) (k0 t : Int) (n : Nat) (vk : Value) : Prop :=
  ∃ k : Int, vk = .int .i64 k ∧ -1 ≤ k ∧ k < (n : Int) ∧ ancT L k0 t = ancT L k t
set_option maxRecDepth 100000 in
theorem rlen_any (w : World) (base a : Nat) (v : Value) (L : List TNd) (h : TreeAt w base a v L) :
    Calls Tryz.prog 28 #[(.pointer (some ⟨a, 0, none⟩))] w fun e w' => e = .returned (.int .i64 (L.length : Int)) ∧ w = w' := by
  obtain ⟨sp, cap, rfl⟩ := h.at.shape
  rw [List.length_map] at h
  generalize L.length = n at h
  have tc := h.cell
  clear h
  go_enter Tryz.func28, Tryz.ntmps28
  go_wp2_with fail
  go_ret
  exact ⟨rfl, rfl⟩
set_option maxHeartbeats 4000000 in
set_option maxRecDepth 100000 in
theorem ranc_any (w : World) (base a : Nat) (v : Value) (L : List TNd) (id : List UInt8) (t : Int) (h : TreeAt w base a v L) (ht : TrL L) (hid : id.length = 32) :
    Calls Tryz.prog 19 #[(.pointer (some ⟨a, 0, none⟩)), .agg (id.map bV).toArray, .int .i64 t] w fun e w' => e = .returned (.tuple #[.agg (((ancA L (findT L id) t).getD (List.replicate 32 0)).map bV).toArray, .bool (ancA L (findT L id) t).isSome]) ∧ Below w.heap.size w w' := by
  obtain ⟨sp, cap, rfl⟩ := h.at.shape
  rw [List.length_map] at h
  obtain ⟨n, hnl⟩ : ∃ n, n = L.length := ⟨_, rfl⟩
  rw [← hnl] at h
  have N := Lib.hid hnl
  have HT := Lib.hid h
  have TR := Lib.hid ht
  have nle : n ≤ 4096 := by rw [hnl]; exact ht.le
  have ID := Lib.hid hid
  have SC : Hid ((id.map bV).toArray.size = 32) := by show _ = _; rw [List.size_toArray, List.length_map]; exact hid
  have FI : Hid (∀ W, Below w.heap.size w W → Calls Tryz.prog 35 #[(.pointer (some ⟨a, 0, none⟩)), .agg (id.map bV).toArray] W fun e w' => e = .returned (.int .i64 (findT L id)) ∧ Below W.heap.size W w') := fun W hW => rfind_any W base a (.slice sp n cap) L id (HT.out.below hW) TR.out.ok ID.out TR.out.le
  have KB : Hid (-1 ≤ findT L id ∧ findT L id < (n : Int)) := by
    show _ ∧ _
    rcases findT_cases L id with ⟨e, _⟩ | ⟨k, x, e, hx, _⟩
    · rw [e]; omega
    · have := (List.getElem?_eq_some_iff.1 hx).1
      have := N.out
      rw [e]
      omega
  obtain ⟨k0, hk0⟩ : ∃ k0, k0 = findT L id := ⟨_, rfl⟩
  rw [← hk0] at FI KB ⊢
  obtain ⟨cq, hcq⟩ : ∃ cq, cq = id.map bV := ⟨_, rfl⟩
  rw [← hcq] at SC FI ⊢
  clear hnl h ht hid hk0 hcq
  go_enter Tryz.func19, Tryz.ntmps19
  go_upto_region 1 with fail
  have f0 := row_below (heap_alloc_new w (.cells cq.toArray 25 (0, 0))) ((Below.refl _ _).alloc (Nat.le_refl _) (.cells (List.replicate 32 (bV 0)).toArray 25 (0, 0)))
  have f1 := heap_alloc_new (w.alloc (.cells cq.toArray 25 (0, 0))) (.cells (List.replicate 32 (bV 0)).toArray 25 (0, 0))
  have bb : Below w.heap.size w ((w.alloc (.cells cq.toArray 25 (0, 0))).alloc (.cells (List.replicate 32 (bV 0)).toArray 25 (0, 0))) := (((Below.refl w.heap.size w).alloc (by first | exact Nat.le_refl _ | (simp only [World.size_alloc]; omega)) (.cells cq.toArray 25 (0, 0))).alloc (by first | exact Nat.le_refl _ | (simp only [World.size_alloc]; omega)) (.cells (List.replicate 32 (bV 0)).toArray 25 (0, 0)))
  simp only [World.size_alloc] at f1
  generalize hq : World.alloc _ _ = w1
  have eq : (w.alloc (.cells cq.toArray 25 (0, 0))).alloc (.cells (List.replicate 32 (bV 0)).toArray 25 (0, 0)) = w1 := hq
  rw [eq] at f0 f1 bb
  obtain ⟨g6, hg6⟩ : ∃ g6, g6 = w.heap.size + 1 := ⟨_, rfl⟩
  have Gg6 : Hid (w.heap.size ≤ g6) := by show _ ≤ _; omega
  rw [← hg6] at f1 ⊢
  obtain ⟨g4, hg4⟩ : ∃ g4, g4 = w.heap.size := ⟨_, rfl⟩
  have Gg4 : Hid (w.heap.size ≤ g4) := by show _ ≤ _; omega
  rw [← hg4] at f0 ⊢
  have F4 := Lib.hid f0
  have F6 := Lib.hid f1
  have B1 := Lib.hid bb
  clear f0 f1 bb hq eq hg4 hg6
  have FD := FI.out w1 B1.out
  go_wp2_with ((with_reducible show wpList _ _ _ _ _ _); (refine wpList_load_row rfl 25 (.tmp 4) rfl g4 rfl 25 cq.toArray (0, 0) _ F4.out Tryz.underlying25 rfl (by rw [SC.out]; kernel_rfl) ?_; go_frame))
  refine FD.mono ?_
  rintro e w2 ⟨rfl, bb⟩
  have B2 := Lib.hid (B1.out.trans (bb.mono B1.out.size))
  have F6 := Lib.hid (row_below F6.out bb)
  have tc : w2.cell? ⟨a, 0, none⟩ = some (.slice sp n cap) := (HT.out.below B2.out).cell
  clear bb FD FI F4 B1
  have kb := KB.out
  go_wp2_with fail
  go_loopw [8] (fun vk wr => AnInvR L k0 t n vk ∧ wr = w2) (fun vk _ => (intOf vk + 1).toNat)
  case atStart => exact ⟨⟨k0, rfl, kb.1, kb.2, rfl⟩, rfl⟩
  case round =>
    obtain ⟨⟨k, rfl, hk1, hk2, he⟩, hwr⟩ := hrel
    subst hwr
    have AE := Lib.hid he
    clear he kb
    by_cases hk : k < 0
    · have hkz : ¬ k ≥ 0 := by omega
      have AN : Hid (ancA L k0 t = none) := by show _ = _; unfold ancA; rw [AE.out, anc_neg hk]; rfl
      go_wp2_with ((with_reducible show wpList _ _ _ _ _ _); first | (refine wpList_buildTo rfl 25 _ rfl _ rfl (List.replicate 32 (bV 0)).toArray (by kernel_rfl) ?_; go_frame) | (refine wpList_store_row rfl 25 (.tmp 6) (.tmp 36) rfl g6 (List.replicate 32 (bV 0)).toArray rfl rfl 25 _ F6.out (by kernel_rfl) rfl (by kernel_rfl) ?_; go_frame))
      refine bodyPost_ret (results_row_tmp rfl _ _ g6 25 (List.replicate 32 (bV 0)).toArray (0, 0) _ rfl (setRow_heap _ _ _ _ _ _ F6.out) Tryz.underlying25 rfl (by kernel_rfl)) rfl ?_
      rw [AN.out]
      exact ⟨rfl, below_setRow B2.out (by have := Gg6.out; omega) _⟩
    have hkz : k ≥ 0 := by omega
    obtain ⟨i, rfl⟩ : ∃ i : Nat, k = (i : Int) := ⟨k.toNat, by omega⟩
    obtain ⟨x, hx⟩ : ∃ x, L[i]? = some x := ⟨_, List.getElem?_eq_getElem (by have := N.out; omega)⟩
    obtain ⟨b, o, rfl, hg⟩ := HT.out.get (show 0 < n by omega)
    have ox := TR.out.ok x (List.mem_of_getElem? hx)
    have hr := hg i x hx
    have nums := nd_nums ox (range_below hr B2.out)
    have c100 := nums.1
    have c101 := nums.2.1
    have RI0 := Lib.hid (range_below (nd_id hr) B2.out)
    have PB1 : Hid (-1 ≤ x.parent ∧ x.parent < (i : Int)) := TR.out.down i x hx
    have hin : i < n := by omega
    have HXX := Lib.hid hx
    clear nums hr hg hx hk1 hk2 hk hkz
    by_cases hh : x.height = t
    · have AN : Hid (ancA L k0 t = some x.id) := by
        show _ = _
        unfold ancA
        rw [AE.out, ← hh, anc_self TR.out HXX.out]
        show some (L.getD (i : Int).toNat ndZ).id = _
        rw [getD_int HXX.out]
      obtain ⟨ix, hix⟩ : ∃ ix, ix = x.id := ⟨_, rfl⟩
      rw [← hix] at AN RI0
      have LX : Hid (ix.length = 32) := by show _ = _; rw [hix]; exact ox.1
      have LI : Hid ((ix.map bV).length = 32) := by show _ = _; rw [List.length_map]; exact LX.out
      have LI' : Hid ((ix.map bV).toArray.size = 32) := by show _ = _; rw [List.size_toArray]; exact LI.out
      have OI : Hid ((ix.map bV).toArray.all (·.oneCell') = true) := bV_one _
      obtain ⟨cd, hcd⟩ : ∃ cd, cd = ix.map bV := ⟨_, rfl⟩
      have CDE := Lib.hid hcd
      rw [← hcd] at RI0 LI LI' OI
      clear hix hcd ox
      have hhz : ¬ ¬ x.height = t := fun h => h hh
      go_wp2_with ((with_reducible show wpList _ _ _ _ _ _); first | (refine wpList_load_mid rfl 25 (.tmp 43) rfl b (o + i * 104) rfl cd _ RI0.out Tryz.underlying25 rfl (by rw [LI.out]; kernel_rfl) ?_; go_frame) | (refine wpList_store_row rfl 25 (.tmp 6) (.tmp 44) rfl g6 cd.toArray rfl rfl 25 _ F6.out (by rw [LI'.out]; kernel_rfl) (by rw [LI'.out]; rfl) OI.out ?_; go_frame))
      refine bodyPost_ret (results_row_tmp rfl _ _ g6 25 cd.toArray (0, 0) _ rfl (setRow_heap _ _ _ _ _ _ F6.out) Tryz.underlying25 rfl (by rw [LI'.out]; kernel_rfl)) rfl ?_
      rw [AN.out, CDE.out]
      exact ⟨rfl, below_setRow B2.out (by have := Gg6.out; omega) _⟩
    · have ST : Hid (ancT L k0 t = ancT L x.parent t) := by show _ = _; rw [AE.out]; exact anc_step TR.out HXX.out (fun e => hh e.symm)
      obtain ⟨p, hp⟩ : ∃ p, p = x.parent := ⟨_, rfl⟩
      rw [← hp] at c100 PB1 ST
      clear hp ox
      have pb := PB1.out
      go_wp2_with fail
      go_roundw
      case rel => exact ⟨⟨p, rfl, by omega, by omega, ST.out⟩, trivial⟩
      case measure => simp [intOf]; omega
end Go.Proofs.YtbgagaaoldjhnaaGreatDoor.Sha

/-
  digest.Less tells whether one digest stands ahead of another, byte by byte; nothing that was there turns. Condition: digests of 32 bytes.
-/
namespace Go.Proofs.YtbgagaaoldjhnaaGreatDoor.Sha
open Go Go.RowKit
theorem bytesOf_bv (l : List UInt8) : Lib.bytesOf (l.map bv) = l := by
  unfold Lib.bytesOf
  rw [List.map_map]
  conv => rhs; rw [← List.map_id l]
  apply List.map_congr_left
  intro x _
  show _ = x
  simp [bv]
theorem run_bytes {P : Program} {w : World} (l : List UInt8) (b off cap : Nat) (h : ∀ j, j < l.length → w.cell? ⟨b, off + j, none⟩ = some (.int .u8 (bv (l.getD j 0)))) :
    (Extern.Bytes.bytesOf (.slice (some ⟨b, off, none⟩) l.length cap)).run P w = .ok ⟨l.toArray⟩ w := by
  have := Lib.run_loadBytesX (P := P) w (l.map bv) ⟨b, off, none⟩ .empty (fun j x hj => by
    have hj1 : j < l.length := by have := (List.getElem?_eq_some_iff.1 hj).1; rwa [List.length_map] at this
    rw [Addr.add_mid, h j hj1]
    rw [List.getElem?_map, List.getElem?_eq_getElem hj1] at hj
    simp only [Option.map_some, Option.some.injEq] at hj
    rw [← hj]
    simp [List.getD, List.getElem?_eq_getElem hj1])
  rw [List.length_map, bytesOf_bv] at this
  show (Extern.Bytes.loadBytes _ _ _).run P w = _
  rw [this]
  simp
theorem run_compare {P : Program} {w : World} (l m : List UInt8) (b c off off' cap cap' : Nat) (h : ∀ j, j < l.length → w.cell? ⟨b, off + j, none⟩ = some (.int .u8 (bv (l.getD j 0))))
    (h' : ∀ j, j < m.length → w.cell? ⟨c, off' + j, none⟩ = some (.int .u8 (bv (m.getD j 0)))) :
    (Extern.BytealgCompare.compare #[.slice (some ⟨b, off, none⟩) l.length cap, .slice (some ⟨c, off', none⟩) m.length cap']).run P w = .ok (.int .i64 (Lib.compareBytes l m)) w := by
  change Sem.run P (do pure (goInt (Extern.BytealgCompare.cmp (← Extern.Bytes.bytesOf (.slice (some ⟨b, off, none⟩) l.length cap)) (← Extern.Bytes.bytesOf (.slice (some ⟨c, off', none⟩) m.length cap'))))) w = _
  simp only [Sem.run_bind, run_bytes l b off cap h, run_bytes m c off' cap' h', Sem.run_pure, Result.andThen]
  rw [Lib.cmp_eq]
  rfl
set_option maxRecDepth 100000 in
theorem compare_any (l m : List UInt8) (n n' b c off off' cap cap' : Nat) (w : World) (hn : n = l.length) (hn' : n' = m.length) (h : ∀ j, j < l.length → w.cell? ⟨b, off + j, none⟩ = some (.int .u8 (bv (l.getD j 0))))
    (h' : ∀ j, j < m.length → w.cell? ⟨c, off' + j, none⟩ = some (.int .u8 (bv (m.getD j 0)))) :
    Calls Tryz.prog 62 #[.slice (some ⟨b, off, none⟩) n cap, .slice (some ⟨c, off', none⟩) n' cap'] w fun e w' => e = .returned (.int .i64 (Lib.compareBytes l m)) ∧ w = w' := by
  subst hn hn'
  have HR := Lib.hid (run_compare (P := Tryz.prog) l m b c off off' cap cap' h h')
  clear h h'
  go_enter Tryz.func62, Tryz.ntmps62
  go_wp2
  rw [run_callFunc_extern Tryz.func97 (by kernel_rfl) (by kernel_rfl) (by kernel_rfl) (e := Extern.BytealgCompare.compare) (by kernel_rfl), HR.out]
  simp only [Result.andThen]
  rw [Oper.upon_value]
  go_wp2
  go_ret
  exact ⟨rfl, rfl⟩
def lessL (l m : List UInt8) : Bool := decide (Lib.compareBytes l m < 0)
theorem less_cons (x y : UInt8) (l m : List UInt8) : lessL (x :: l) (y :: m) = (decide (x < y) || (decide (x = y) && lessL l m)) := by
  unfold lessL
  simp only [Lib.compareBytes]
  by_cases h1 : x < y
  · simp [h1]
  · by_cases h2 : y < x
    · have h3 : ¬ x = y := fun e => by subst e; exact h1 h2
      simp [h1, h2, h3]
    · have h3 : x = y := UInt8.le_antisymm (UInt8.not_lt.1 h2) (UInt8.not_lt.1 h1)
      subst h3
      simp [h1]
theorem less_self (l : List UInt8) : lessL l l = false := by
  induction l with
  | nil => rfl
  | cons x l ih => rw [less_cons, ih]; simp
set_option maxRecDepth 100000 in
theorem less_any (l m : List UInt8) (hl : l.length = 32) (hm : m.length = 32) (w : World) :
    Calls Tryz.prog 41 #[.agg (l.map bV).toArray, .agg (m.map bV).toArray] w fun e w' => e = .returned (.bool (lessL l m)) ∧ Below w.heap.size w w' := by
  have HL := Lib.hid hl
  have HM := Lib.hid hm
  have hb : Below w.heap.size w ((w.alloc (.cells (l.map bV).toArray 25)).alloc (.cells (m.map bV).toArray 25)) := ((Below.refl _ _).alloc (Nat.le_refl _) _).alloc (by simp) _
  have h1 : ∀ j, j < l.length → ((w.alloc (.cells (l.map bV).toArray 25)).alloc (.cells (m.map bV).toArray 25)).cell? ⟨w.heap.size, 0 + j, none⟩ = some (.int .u8 (bv (l.getD j 0))) := fun j hj => by
    rw [Nat.zero_add, cell_of_row _ _ _ _ _ _ (heap_alloc2_old w _ _), bV_get _ _ hj]
  have h2 : ∀ j, j < m.length → ((w.alloc (.cells (l.map bV).toArray 25)).alloc (.cells (m.map bV).toArray 25)).cell? ⟨w.heap.size + 1, 0 + j, none⟩ = some (.int .u8 (bv (m.getD j 0))) := fun j hj => by
    rw [Nat.zero_add, cell_of_row _ _ _ _ _ _ (heap_alloc2_new w _ _), bV_get _ _ hj]
  have HB := Lib.hid hb
  have H1 := Lib.hid h1
  have H2 := Lib.hid h2
  clear hl hm hb h1 h2
  go_enter Tryz.func41, Tryz.ntmps41
  go_wp2_with fail
  generalize hw2 : World.alloc _ _ = w2
  rw [hw2] at HB H1 H2
  clear hw2
  obtain ⟨z, hz⟩ : ∃ z, Lib.compareBytes l m = z := ⟨_, rfl⟩
  have HC : ∀ n, Hid (Calls Tryz.prog 62 #[.slice (some ⟨w.heap.size, 0, none⟩) 32 32, .slice (some ⟨w.heap.size + 1, 0, none⟩) 32 32] (w2.drewN n) fun e w' => e = .returned (.int .i64 z) ∧ w' = w2.drewN n) := fun n => by
    have := compare_any l m 32 32 w.heap.size (w.heap.size + 1) 0 0 32 32 (w2.drewN n) HL.out.symm HM.out.symm H1.out H2.out
    rw [hz] at this
    exact same_of this
  have HZ := Lib.hid hz
  clear hz
  go_quiet ((go_at_call 62; exact Calls.quiet_of_same (HC _).out))
  go_wp2_with fail
  go_ret
  exact ⟨by unfold lessL; rw [HZ.out]; rfl, below_drewN HB.out _⟩
end Go.Proofs.YtbgagaaoldjhnaaGreatDoor.Sha

/-
  The order of digests and of places: of two unlike ones just one is less; less and less is less. Condition: digests of one length.
-/
namespace Go.Proofs.YtbgagaaoldjhnaaGreatDoor.Sha
open Go Go.RowKit
theorem less_asym : ∀ (l m : List UInt8), l.length = m.length → lessL l m = true → lessL m l = false
  | [], [], _, h => by cases h
  | x :: l, y :: m, hl, h => by
    rw [less_cons] at h ⊢
    simp only [Bool.or_eq_true, Bool.and_eq_true, decide_eq_true_eq] at h
    rcases h with h | ⟨rfl, h⟩
    · have h1 : ¬ y < x := fun h2 => absurd (UInt8.lt_trans h h2) (UInt8.lt_irrefl x)
      have h2 : ¬ y = x := fun e => by subst e; exact absurd h (UInt8.lt_irrefl y)
      simp [h1, h2]
    · rw [less_asym l m (by simpa using hl) h]
      simp [UInt8.lt_irrefl]
theorem less_total : ∀ (l m : List UInt8), l.length = m.length → l ≠ m → lessL l m = false → lessL m l = true
  | [], [], _, h, _ => absurd rfl h
  | x :: l, y :: m, hl, hne, h => by
    rw [less_cons] at h ⊢
    simp only [Bool.or_eq_false_iff, Bool.and_eq_false_iff, decide_eq_false_iff_not] at h
    by_cases e : x = y
    · subst e
      have h1 : lessL l m = false := by rcases h.2 with h2 | h2 <;> simp_all
      rw [less_total l m (by simpa using hl) (fun e => hne (by rw [e])) h1]
      simp
    · have : y < x := UInt8.lt_of_le_of_ne (UInt8.not_lt.1 h.1) (fun e' => e e'.symm)
      simp [this]
theorem less_trans : ∀ (l m k : List UInt8), l.length = m.length → m.length = k.length → lessL l m = true → lessL m k = true → lessL l k = true
  | [], [], _, _, _, h, _ => by cases h
  | x :: l, y :: m, z :: k, h1, h2, h, h' => by
    rw [less_cons] at h h' ⊢
    simp only [Bool.or_eq_true, Bool.and_eq_true, decide_eq_true_eq] at h h' ⊢
    rcases h with h | ⟨rfl, h⟩ <;> rcases h' with h' | ⟨rfl, h'⟩
    · exact .inl (UInt8.lt_trans h h')
    · exact .inl h
    · exact .inl h'
    · exact .inr ⟨rfl, less_trans l m k (by simpa using h1) (by simpa using h2) h h'⟩
end Go.Proofs.YtbgagaaoldjhnaaGreatDoor.Sha

/-
  What stands under a node of a tree, and a walk over its children that comes by each of them once; digests that rise, each once. No conditions beyond those that each states.
-/
namespace Go.Proofs.YtbgagaaoldjhnaaGreatDoor.Sha
open Go Go.RowKit
def subI (L : List TNd) (i : Nat) : List Nat := (List.range L.length).filter fun j : Nat => belT L (j : Int) (i : Int)
theorem sub_mem {L : List TNd} {i j : Nat} : j ∈ subI L i ↔ j < L.length ∧ belT L (j : Int) (i : Int) = true := by
  unfold subI
  rw [List.mem_filter, List.mem_range]
theorem sub_nodup (L : List TNd) (i : Nat) : (subI L i).Nodup := List.nodup_range.filter _
theorem sub_le (L : List TNd) (i : Nat) : (subI L i).length ≤ L.length := by
  have h := List.length_filter_le (fun j : Nat => belT L (j : Int) (i : Int)) (List.range L.length)
  rwa [List.length_range] at h
theorem node_at {L : List TNd} {i : Nat} (h : i < L.length) : ∃ x, L[i]? = some x := ⟨_, List.getElem?_eq_getElem h⟩
theorem bel_iff {L : List TNd} (h : TrL L) {i j : Nat} {x y : TNd} (hx : L[i]? = some x) (hy : L[j]? = some y) : belT L (j : Int) (i : Int) = true ↔ (chainT L (j : Int))[x.height.toNat]? = some (i : Int) := by
  have e : belT L (j : Int) (i : Int) = true ↔ (i : Int) ∈ chainT L (j : Int) := by
    unfold belT chainT
    rw [List.contains_iff_mem, List.mem_reverse]
  rw [e]
  constructor
  · intro hm
    obtain ⟨t, ht⟩ := List.mem_iff_getElem?.1 hm
    obtain ⟨i', z, e1, hz, e2⟩ := chain_ok h hy ht
    have e3 : i' = i := by omega
    subst e3
    rw [hx] at hz
    have e4 := Option.some.inj hz
    subst e4
    rw [e2, Int.toNat_natCast]
    exact ht
  · exact fun ht => List.mem_of_getElem? ht
theorem chain_self {L : List TNd} (h : TrL L) {i : Nat} {x : TNd} (hx : L[i]? = some x) : (chainT L (i : Int))[x.height.toNat]? = some (i : Int) := anc_chainAt (h.height hx).1 (anc_self h hx)
theorem sub_self {L : List TNd} (h : TrL L) {i : Nat} {x : TNd} (hx : L[i]? = some x) : i ∈ subI L i := sub_mem.2 ⟨(List.getElem?_eq_some_iff.1 hx).1, (bel_iff h hx hx).2 (chain_self h hx)⟩
theorem kid_node {L : List TNd} (h : TrL L) {i a : Nat} {x : TNd} (hx : L[i]? = some x) (ha : a ∈ kidsI L i) : ∃ y, L[a]? = some y ∧ y.parent = (i : Int) ∧ y.height = x.height + 1 := by
  obtain ⟨y, hy⟩ := node_at (kidsI_lt ha)
  have hp : y.parent = (i : Int) := by
    have := kidsI_par ha
    unfold parT at this
    rw [hy] at this
    exact this
  refine ⟨y, hy, hp, ?_⟩
  rcases h.parent hy with ⟨_, e, _⟩ | ⟨p, z, _, e, hz, eh⟩
  · omega
  · have e3 : p = i := by omega
    subst e3
    rw [hx] at hz
    rw [Option.some.inj hz]
    exact eh
theorem sub_split {L : List TNd} (h : TrL L) {i j : Nat} {x : TNd} (hx : L[i]? = some x) : j ∈ subI L i ↔ j = i ∨ ∃ a ∈ kidsI L i, j ∈ subI L a := by
  have h0 := (h.height hx).1
  constructor
  · intro hj
    obtain ⟨hl, hb⟩ := sub_mem.1 hj
    obtain ⟨y, hy⟩ := node_at hl
    have hc := (bel_iff h hx hy).1 hb
    have hlen := chain_length h hy
    by_cases hlt : x.height.toNat + 1 < (chainT L (j : Int)).length
    · right
      have ha := List.getElem?_eq_getElem hlt
      obtain ⟨a, z, e1, hz, e2⟩ := chain_ok h hy ha
      rw [e1] at ha
      obtain ⟨p, z', e3, hz', hp⟩ := chain_prev h hy ha hz
      rw [hc] at hp
      have e4 : (i : Int) = (p : Int) := Option.some.inj hp
      refine ⟨a, ?_, sub_mem.2 ⟨hl, (bel_iff h hz hy).2 ?_⟩⟩
      · unfold kidsI
        rw [List.mem_filter, List.mem_range]
        refine ⟨(List.getElem?_eq_some_iff.1 hz).1, decide_eq_true ?_⟩
        unfold parT
        rw [hz]
        show z.parent = _
        omega
      · rw [e2, Int.toNat_natCast]
        exact ha
    · left
      have hcl := (List.getElem?_eq_some_iff.1 hc).1
      have hs := chain_self h hy
      have e1 : y.height.toNat = x.height.toNat := by omega
      rw [e1, hc] at hs
      have := Option.some.inj hs
      omega
  · rintro (rfl | ⟨a, ha, hj⟩)
    · exact sub_self h hx
    · obtain ⟨hl, hb⟩ := sub_mem.1 hj
      obtain ⟨y, hy⟩ := node_at hl
      obtain ⟨z, hz, hp, hh⟩ := kid_node h hx ha
      have hc := (bel_iff h hz hy).1 hb
      rw [show z.height.toNat = x.height.toNat + 1 by omega] at hc
      obtain ⟨p, z', e3, hz', hq⟩ := chain_prev h hy hc hz
      refine sub_mem.2 ⟨hl, (bel_iff h hx hy).2 ?_⟩
      rw [hq, ← e3, hp]
theorem kidsI_nodup (L : List TNd) (i : Nat) : (kidsI L i).Nodup := List.nodup_range.filter _
theorem sub_step {L : List TNd} (h : TrL L) {i : Nat} {x : TNd} (hx : L[i]? = some x) : (subI L i).Perm (i :: (kidsI L i).flatMap (subI L)) := by
  refine (List.perm_ext_iff_of_nodup (sub_nodup L i) (List.nodup_cons.2 ⟨fun hm => ?_, ?_⟩)).2 fun j => ?_
  · obtain ⟨a, ha, hj⟩ := List.mem_flatMap.1 hm
    obtain ⟨z, hz, _, hh⟩ := kid_node h hx ha
    have hc := (bel_iff h hz hx).1 (sub_mem.1 hj).2
    have := (List.getElem?_eq_some_iff.1 hc).1
    have hl := chain_length h hx
    have := (h.height hx).1
    omega
  · refine List.pairwise_flatMap.2 ⟨fun a _ => sub_nodup L a, (kidsI_nodup L i).imp_of_mem fun {a b} ha hb hne j hj q hq e => hne ?_⟩
    subst e
    obtain ⟨y, hy⟩ := node_at (sub_mem.1 hj).1
    obtain ⟨z, hz, _, h1⟩ := kid_node h hx ha
    obtain ⟨u, hu, _, h2⟩ := kid_node h hx hb
    have c1 := (bel_iff h hz hy).1 (sub_mem.1 hj).2
    have c2 := (bel_iff h hu hy).1 (sub_mem.1 hq).2
    rw [h1, ← h2, c2] at c1
    have := Option.some.inj c1
    omega
  · rw [sub_split h hx, List.mem_cons, List.mem_flatMap]
/-- Those that a walk over the children has come by, and those that stand open. -/
structure UnI (L : List TNd) (k : Nat) (D O : List Nat) : Prop where
  all : (D ++ O.flatMap (subI L)).Perm (subI L k)
  lt : ∀ o ∈ O, o < L.length
theorem UnI.first (L : List TNd) {k : Nat} (hk : k < L.length) : UnI L k [] [k] := ⟨by simp, fun o ho => by rw [List.mem_singleton.1 ho]; exact hk⟩
theorem UnI.step {L : List TNd} (h : TrL L) {k o : Nat} {D O : List Nat} (hu : UnI L k D (O ++ [o])) : UnI L k (D ++ [o]) (O ++ kidsI L o) := by
  obtain ⟨x, hx⟩ := node_at (hu.lt o (by simp))
  refine ⟨List.Perm.trans ?_ hu.all, fun q hq => ?_⟩
  · rw [List.flatMap_append, List.flatMap_append, List.append_assoc]
    refine List.Perm.append_left D ?_
    rw [List.flatMap_singleton]
    refine List.Perm.trans ?_ (List.Perm.append_left _ (sub_step h hx).symm)
    exact (List.perm_middle (a := o) (l₁ := O.flatMap (subI L)) (l₂ := (kidsI L o).flatMap (subI L))).symm
  · rcases List.mem_append.1 hq with h1 | h1
    · exact hu.lt q (List.mem_append_left _ h1)
    · exact kidsI_lt h1
theorem flat_le {L : List TNd} (h : TrL L) : ∀ (O : List Nat), (∀ o ∈ O, o < L.length) → O.length ≤ (O.flatMap (subI L)).length
  | [], _ => by simp
  | o :: O, hl => by
    obtain ⟨x, hx⟩ := node_at (hl o List.mem_cons_self)
    have h1 := List.length_pos_of_mem (sub_self h hx)
    have h2 := flat_le h O fun q hq => hl q (List.mem_cons_of_mem _ hq)
    rw [List.flatMap_cons, List.length_append, List.length_cons]
    omega
theorem UnI.le {L : List TNd} (h : TrL L) {k : Nat} {D O : List Nat} (hu : UnI L k D O) : D.length + O.length ≤ (subI L k).length := by
  have h1 := hu.all.length_eq
  have h2 := flat_le h O hu.lt
  rw [List.length_append] at h1
  omega
theorem UnI.done {L : List TNd} {k : Nat} {D : List Nat} (hu : UnI L k D []) : D.Perm (subI L k) := by simpa using hu.all
def idsN (L : List TNd) (D : List Nat) : List (List UInt8) := D.map fun j => (L.getD j ndZ).id
end Go.Proofs.YtbgagaaoldjhnaaGreatDoor.Sha

/-
  What the library's sort.Slice stands on, its comparison being free to lay blocks: the row as a state, the comparison, the exchange. No conditions.
-/
namespace Go.Proofs.YtbgagaaoldjhnaaGreatDoor.Sha
open Go Go.RowKit
open Go.Sort (swp insInner insOuter)
/-- The two functions of a lessSwap. -/
def soL (lf : Nat) (lb : Array Value) (sf : Nat) (sb : Array Value) : List Value := [.func (.func lf) #[] lb, .func (.func sf) #[] sb]
structure SoE (α : Type) [Inhabited α] (lt : α → α → Bool) (n lf : Nat) (lb : Array Value) (sf : Nat) (sb : Array Value) where
  I : Array α → World → Prop
  R : World → World → Prop
  size : ∀ d W, I d W → d.size = n
  below : ∀ d W W', I d W → Below W.heap.size W W' → I d W'
  rb : ∀ W W', Below W.heap.size W W' → R W W'
  rt : ∀ a b c, R a b → R b c → R a c
  rbox : ∀ (W W' : World) (b : Nat), R W W' → W.heap[b]? = some (.cells (soL lf lb sf sb).toArray 121 (0, 0)) → W'.heap[b]? = some (.cells (soL lf lb sf sb).toArray 121 (0, 0))
  eg : ∀ args W, (callFunc lf args).run Tryz.prog W = .ok (.enter lf args) W
  less : ∀ d W i j, I d W → i < n → j < n → Calls Tryz.prog lf (#[.int .i64 (i : Int), .int .i64 (j : Int)] ++ lb) W fun e w' => e = .returned (.bool (lt d[i]! d[j]!)) ∧ Below W.heap.size W w'
  swap : ∀ d W i j, I d W → i < n → j < n → ∃ w', (callFunc sf (#[.int .i64 (i : Int), .int .i64 (j : Int)] ++ sb)).run Tryz.prog W = .ok (.value (.tuple #[])) w' ∧ I (swp d i j) w' ∧ R W w'
  rx : ∀ (W W' : World) (b : Nat) (v : Value), R W W' → W.heap[b]? = some (.cells #[v] 168 (0, 0)) → W'.heap[b]? = some (.cells #[v] 168 (0, 0))
  rand : ∀ (d' d : Array α) (w W W' : World) (s : Nat), I d' w → I d W → R w W → w.heap.size ≤ s → W.grownBy W' (some s) → I d W' ∧ R w W'
  le : n ≤ 1048576
section
variable {lf sf : Nat} {lb sb : Array Value}
theorem so_c0 {W : World} {b : Nat} (h : W.heap[b]? = some (.cells (soL lf lb sf sb).toArray 121 (0, 0))) : W.cell? ⟨b, 0, none⟩ = some (.func (.func lf) #[] lb) := by rw [cell_of_row _ _ _ _ _ _ h]; rfl
theorem so_c1 {W : World} {b : Nat} (h : W.heap[b]? = some (.cells (soL lf lb sf sb).toArray 121 (0, 0))) : W.cell? ⟨b, 1, none⟩ = some (.func (.func sf) #[] sb) := by rw [cell_of_row _ _ _ _ _ _ h]; rfl
end
end Go.Proofs.YtbgagaaoldjhnaaGreatDoor.Sha

/-
  The library's insertion sort over a row, its comparison being free to lay blocks. Conditions: those of SoE.
-/
namespace Go.Proofs.YtbgagaaoldjhnaaGreatDoor.Sha
open Go Go.RowKit
open Go.Sort (swp insInner insOuter)
set_option maxHeartbeats 2000000 in
set_option maxRecDepth 100000 in
theorem so_ins {α : Type} [Inhabited α] {lt : α → α → Bool} {n lf sf : Nat} {lb sb : Array Value} (E : SoE α lt n lf lb sf sb) (w : World) (d : Array α) (a b : Nat) (hI : E.I d w) (hab : a ≤ b) (hb : b ≤ n) :
    Calls Tryz.prog 89 #[(.agg (soL lf lb sf sb).toArray), .int .i64 (a : Int), .int .i64 (b : Int)] w fun e w' => e = .returned (.tuple #[]) ∧ E.I (Sort.insertionSort lt d a b) w' ∧ E.R w w' := by
  have eg := E.eg
  have HI := Lib.hid hI
  have NL := Lib.hid E.le
  have hab' := Lib.hid hab
  have hb' := Lib.hid hb
  go_enter Tryz.func89, Tryz.ntmps89
  go_upto_region 1 with fail
  have f0 := heap_alloc_new w (.cells (soL lf lb sf sb).toArray 121 (0, 0))
  have bb := (Below.refl w.heap.size w).alloc (Nat.le_refl _) (.cells (soL lf lb sf sb).toArray 121 (0, 0))
  generalize hq : World.alloc _ _ = w1
  have eq : w.alloc (.cells (soL lf lb sf sb).toArray 121 (0, 0)) = w1 := hq
  rw [eq] at f0 bb
  obtain ⟨b0, hb0⟩ : ∃ b0, b0 = w.heap.size := ⟨_, rfl⟩
  rw [← hb0] at f0 ⊢
  have F0 := Lib.hid f0
  have I1 := Lib.hid (E.below _ _ _ hI bb)
  have R1 := Lib.hid (E.rb _ _ bb)
  clear f0 bb hq eq hb0 hI
  clear hab hb
  have ab := hab'.out
  have bn := hb'.out
  have nl := NL.out
  go_wp2_with fail
  go_loopw [6] (fun vi wr => ∃ (i : Nat) (dk : Array α), vi = .int .i64 (i : Int) ∧ a < i ∧ i ≤ b + 1 ∧ E.I dk wr ∧ E.R w wr ∧ wr.heap[b0]? = some (.cells (soL lf lb sf sb).toArray 121 (0, 0)) ∧ insOuter lt a b i dk = insOuter lt a b (a + 1) d) (fun vi _ => b + 1 - (intOf vi).toNat)
  case atStart => exact ⟨a + 1, d, by go_num, by omega, by omega, I1.out, R1.out, F0.out, rfl⟩
  case round =>
    clear F0 I1 R1 HI
    obtain ⟨i, dk, rfl, hai, hib, hi, hr, hf, ho⟩ := hrel
    have IK := Lib.hid hi
    have RK := Lib.hid hr
    have FK := Lib.hid hf
    have OK := Lib.hid ho
    clear hi hr hf ho
    by_cases hlt : i < b
    · go_wp2_with fail
      go_loopw [7] (fun vj wr2 => ∃ (j : Nat) (dj : Array α), vj = .int .i64 (j : Int) ∧ a ≤ j ∧ j ≤ i ∧ E.I dj wr2 ∧ E.R w wr2 ∧ wr2.heap[b0]? = some (.cells (soL lf lb sf sb).toArray 121 (0, 0)) ∧ insInner lt a j dj = insInner lt a i dk) (fun vj _ => (intOf vj).toNat)
      case atStart => exact ⟨i, dk, rfl, by omega, Nat.le_refl _, IK.out, RK.out, FK.out, rfl⟩
      case round =>
        clear IK RK FK
        obtain ⟨j, dj, rfl, haj, hji, hi, hr, hf, ho⟩ := hrel
        have IJ := Lib.hid hi
        have RJ := Lib.hid hr
        have FJ := Lib.hid hf
        have OJ := Lib.hid ho
        have c0 := so_c0 hf
        clear hi hr hf ho
        by_cases hja : a < j
        · have hl := E.less dj wr j (j - 1) IJ.out (by omega) (by omega)
          rw [show (((j - 1 : Nat) : Int)) = (j : Int) - 1 by omega] at hl
          cases hlv : lt dj[j]! dj[j - 1]! with
          | true =>
            rw [hlv] at hl
            go_wp2_with (go_at_fn lf; refine hl.mono ?_; rintro e w' ⟨rfl, bb⟩; have IJ2 := Lib.hid (E.below _ _ _ IJ.out bb); have FJ2 := Lib.hid (row_below FJ.out bb); have RJ2 := Lib.hid (E.rt _ _ _ RJ.out (E.rb _ _ bb)); have c1 := so_c1 FJ2.out; clear bb)
            obtain ⟨w2, hs, hi2, hr2⟩ := E.swap dj w' j (j - 1) IJ2.out (by omega) (by omega)
            rw [show (((j - 1 : Nat) : Int)) = (j : Int) - 1 by omega] at hs
            rw [hs, Oper.upon_value]
            have I3 := Lib.hid hi2
            have F3 := Lib.hid (E.rbox _ _ _ hr2 FJ2.out)
            have R3 := Lib.hid (E.rt _ _ _ RJ2.out hr2)
            clear hs hi2 hr2 hl
            go_wp2_with fail
            go_roundw
            case rel => exact ⟨j - 1, swp dj j (j - 1), by congr 1 <;> omega, by omega, by omega, I3.out, R3.out, F3.out, by rw [← OJ.out, insInner_go lt a j dj hja hlv]⟩
            case measure => simp [intOf]; omega
          | false =>
            rw [hlv] at hl
            go_wp2_with (go_at_fn lf; refine hl.mono ?_; rintro e w' ⟨rfl, bb⟩; have IJ2 := Lib.hid (E.below _ _ _ IJ.out bb); have FJ2 := Lib.hid (row_below FJ.out bb); have RJ2 := Lib.hid (E.rt _ _ _ RJ.out (E.rb _ _ bb)); clear bb)
            go_roundw
            case rel => exact ⟨i + 1, dj, by go_num, by omega, by omega, IJ2.out, RJ2.out, FJ2.out, by rw [← OK.out, insOuter_go _ _ _ _ _ hlt, ← OJ.out, insInner_stop _ _ _ _ (Or.inr hlv)]⟩
            case measure => simp [intOf]; omega
        · go_wp2_with fail
          go_roundw
          case rel => exact ⟨i + 1, dj, by go_num, by omega, by omega, IJ.out, RJ.out, FJ.out, by rw [← OK.out, insOuter_go _ _ _ _ _ hlt, ← OJ.out, insInner_stop _ _ _ _ (Or.inl (by omega))]⟩
          case measure => simp [intOf]; omega
    · go_wp2_with fail
      go_end0
      exact ⟨rfl, by unfold Sort.insertionSort; rw [← OK.out, insOuter_stop _ _ _ _ _ hlt]; exact IK.out, RK.out⟩
end Go.Proofs.YtbgagaaoldjhnaaGreatDoor.Sha
