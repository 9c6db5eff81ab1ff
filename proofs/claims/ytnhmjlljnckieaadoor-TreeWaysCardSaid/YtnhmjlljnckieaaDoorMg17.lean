/-
  Texts of this proof joined into one file: CtAdd, CtRev, CtPath. What each holds, and under which conditions, its own first sentence tells.
-/
import Derived.Shelf.SlicesQ.Reverse
import Derived.Test.YtnhmjlljnckieaaDoorMg14
import Derived.Test.YtnhmjlljnckieaaDoorMg15
import Derived.Test.YtnhmjlljnckieaaDoorMg06
import Derived.Test.YtnhmjlljnckieaaDoorMg12
/-
  The program's tree takes a header in, or tells what is amiss. Besides the tree's map, its nodes and their rows nothing that was there turns. Conditions: the tree lies where it should, a header as the model has it; the three errors and the table of the rounds' words are there.
-/
namespace Go.Proofs.YtnhmjlljnckieaaDoor.Sha
open Go Go.RowKit
structure CE (w : World) (E : Nat → Addr) : Prop where
  known : w.cell? ⟨0, 0, none⟩ = some (errV E 9)
  parent : w.cell? ⟨1, 0, none⟩ = some (errV E 10)
  full : w.cell? ⟨2, 0, none⟩ = some (errV E 21)
theorem CE.below {w w' : World} {E : Nat → Addr} (h : CE w E) (hb : Below w.heap.size w w') : CE w' E := ⟨cell_below h.known hb, cell_below h.parent hb, cell_below h.full hb⟩
/-- What Add leaves. -/
def CtaP (E : Nat → Addr) (base b mb : Nat) (M : List CNd) (h : THd) (w : World) (e : Ending) (wr : World) : Prop :=
  e = .returned (errV E (addE (ndM M) h - 100)) ∧ (addE (ndM M) h ≠ 0 → Below w.heap.size w wr) ∧ (addE (ndM M) h = 0 → ∃ M', ndM M' = ndM M ++ [nxT (ndM M) h] ∧ CtAt wr base b mb M' ∧ Kps (CF mb M) w wr)
theorem info_nptr : (Tryd.prog.info? 61).map (fun i => (i.zero, i.size, i.bytes)) = some (some (.pointer none), 1, 8) := by kernel_rfl
theorem CtAt.size1 {w : World} {base b mb : Nat} {M : List CNd} (h : CtAt w base b mb M) {i : Nat} {c : CNd} (hc : M[i]? = some c) : ∃ sp n cap, c.kids = .slice sp n cap := by
  obtain ⟨sp, cap, e⟩ := ((h.kid i c hc).at (by omega)).shape
  exact ⟨sp, _, cap, e⟩
set_option maxHeartbeats 4000000 in
set_option maxRecDepth 100000 in
theorem ctadd_any (E : Nat → Addr) (w : World) (base b mb : Nat) (M : List CNd) (hd : THd) (h : CtAt w base b mb M) (ht : TrL (ndM M)) (hh : HdOk hd) (hk : KTab w) (hE : CE w E) (hbs : base ≤ w.heap.size) :
    Calls Tryd.prog 8 #[(.pointer (some ⟨b, 0, none⟩)), .agg (hdL hd).toArray] w (CtaP E base b mb M hd w) := by
  have HBS := Lib.hid hbs
  clear hbs
  obtain ⟨i0, hi, hz0, hz1, hz2⟩ := info_parts info_nptr
  have HT := Lib.hid h
  have TR := Lib.hid ht
  have LS := Lib.hid ht.start.1
  have CEE := Lib.hid hE
  have RI : Hid (∀ W, Below w.heap.size w W → Calls Tryd.prog 21 #[.agg (hdL hd).toArray] W fun e w' => e = .returned (.agg ((hdId hd).map bV).toArray) ∧ Below W.heap.size W w') := fun W hW => id_hd hd hh W (hk.below hW)
  have LC : Hid ((hdL hd).length = 68) := hdL_length hh
  have CW : Hid (∀ (W : World) (g : Nat), W.heap[g]? = some (.cells (hdL hd).toArray 32 (0, 0)) → W.cell? ⟨g, 66, none⟩ = some (.int .u32 (hd.work : Int))) := fun W g q => ((HdBox.mk q).cells hh).2.2.1
  have HW : Hid (hd.work ≤ 4294967295) := hh.2.2.2.2.1
  have CP : Hid (∀ (W : World) (g : Nat), W.heap[g]? = some (.cells (hdL hd).toArray 32 (0, 0)) → W.rangeAt g 1 (hd.prev.map bV)) := fun W g q => (HdBox.mk q).prev
  have LXN : Hid (∀ p, (cnL (nxT (ndM M) hd) p (.slice none 0 0)).length = 104) := fun p => cnL_length (hdId_length hd) hh
  have BN : Hid (∀ p, Tryd.prog.built 64 [(0, .agg ((hdId hd).map bV).toArray), (1, .agg (hdL hd).toArray), (2, .int .i64 (nxT (ndM M) hd).height), (3, .int .u64 ((nxT (ndM M) hd).work : Int)), (4, nptr p)] = some (cnL (nxT (ndM M) hd) p (.slice none 0 0)).toArray) := fun p => built_cn _ (nxT (ndM M) hd) p (hdId_length hd) hh rfl
  obtain ⟨oa, qa, hlka, hcaa⟩ := ct_look h ht (hdId hd) (hdId_length hd)
  obtain ⟨ob, qb, hlkb, hcab⟩ := ct_look h ht hd.prev hh.2.1
  have LKA := Lib.hid hlka
  have LKB := Lib.hid hlkb
  have CAA := Lib.hid hcaa
  have CAB := Lib.hid hcab
  obtain ⟨id, hid⟩ : ∃ id, id = hdId hd := ⟨_, rfl⟩
  have IDE := Lib.hid hid
  have LID : Hid (id.length = 32) := by show _ = _; rw [hid]; exact hdId_length hd
  rw [← hid] at RI BN LKA CAA
  have SCI : Hid ((id.map bV).toArray.size = 32) := by show _ = _; rw [List.size_toArray, List.length_map]; exact LID.out
  have OCI : Hid ((id.map bV).toArray.all (·.oneCell') = true) := bV_one _
  have LCI : Hid ((id.map bV).length = 32) := by show _ = _; rw [List.length_map]; exact LID.out
  obtain ⟨ci, hci⟩ : ∃ ci, ci = id.map bV := ⟨_, rfl⟩
  have CIE := Lib.hid hci
  rw [← hci] at RI BN SCI OCI LCI LKA
  have LCP : Hid ((hd.prev.map bV).length = 32) := by show _ = _; rw [List.length_map]; exact hh.2.1
  obtain ⟨cp, hcp⟩ : ∃ cp, cp = hd.prev.map bV := ⟨_, rfl⟩
  rw [← hcp] at CP LCP LKB
  obtain ⟨cs, hcs⟩ : ∃ cs, cs = hdL hd := ⟨_, rfl⟩
  rw [← hcs] at LC CW CP RI BN ⊢
  clear hh hk hid hci hcs hcp h ht hE hlka hlkb hcaa hcab
  go_enter Tryd.func8, Tryd.ntmps8
  go_upto_region 1 with fail
  have f0 := heap_alloc_new w (.cells cs.toArray 32 (0, 0))
  have bb : Below w.heap.size w (w.alloc (.cells cs.toArray 32 (0, 0))) := ((Below.refl w.heap.size w).alloc (by first | exact Nat.le_refl _ | (simp only [World.size_alloc]; omega)) (.cells cs.toArray 32 (0, 0)))
  generalize hq : World.alloc _ _ = w1
  have eq : w.alloc (.cells cs.toArray 32 (0, 0)) = w1 := hq
  rw [eq] at f0 bb
  obtain ⟨g3, hg3⟩ : ∃ g3, g3 = w.heap.size := ⟨_, rfl⟩
  have Gg3 : Hid (w.heap.size ≤ g3) := by show _ ≤ _; omega
  rw [← hg3] at f0 ⊢
  have F3 := Lib.hid f0
  have B1 := Lib.hid bb
  clear f0 bb hq eq hg3
  go_wp2_with ((with_reducible show wpList _ _ _ _ _ _); (refine wpList_load_row rfl 32 (.tmp 3) rfl g3 rfl 32 cs.toArray (0, 0) _ F3.out Tryd.underlying32 rfl (by show _ = some cs.length; rw [LC.out] <;> kernel_rfl) ?_; go_frame))
  refine (RI.out w1 B1.out).mono ?_
  rintro e w2 ⟨rfl, bb⟩
  have F3 := Lib.hid (row_below F3.out bb)
  have B1 := Lib.hid (B1.out.trans (bb.mono B1.out.size))
  clear bb RI
  go_upto_region 2 with ((with_reducible show wpList _ _ _ _ _ _); (refine wpList_store_row rfl 30 (.tmp 5) (.tmp 12) rfl w2.heap.size ci.toArray rfl rfl 30 _ (heap_alloc_new _ _) (by rw [SCI.out]; kernel_rfl) (by rw [SCI.out]; rfl) OCI.out ?_; go_frame))
  obtain ⟨_, f2, f3, f4⟩ := fill_setup (Below.refl w2.heap.size w2) (List.replicate 32 (bV 0)).toArray ci.toArray 30
  generalize hqw3 : World.setRow _ _ _ = w3
  have ew3 : World.setRow (w2.alloc (.cells (List.replicate 32 (bV 0)).toArray 30)) w2.heap.size ci.toArray = w3 := hqw3
  rw [ew3] at f2 f3 f4
  obtain ⟨g5, hg5⟩ : ∃ g5, g5 = w2.heap.size := ⟨_, rfl⟩
  rw [← hg5] at f2 ⊢
  have F5 := Lib.hid f2
  have Ng5 : Hid (w2.heap.size ≤ g5) := by show _ ≤ _; rw [hg5]; exact Nat.le_refl _
  have F3 := Lib.hid (row_below F3.out f4)
  have B1 := Lib.hid (B1.out.trans (f4.mono B1.out.size))
  clear f2 f3 f4 hqw3 ew3 hg5
  refine wp_region_held_drew (S := (fun w' => Below w3.heap.size w3 w')) (by kernel_rfl) (Below.drew (Below.refl _ _)) (fun hHeld => ?_)
  generalize hwd : w3.drew = wd at  hHeld ⊢
  clear hwd
  refine held_take (i := 0) (v := (.pointer (some ⟨b, 0, none⟩))) rfl (by kernel_rfl) (by kernel_rfl) (by kernel_rfl) (fun _ _ _ h => h) (Or.inl ⟨by rfl, fun w' _ => by kernel_rfl⟩) hHeld ?_
  go_frame
  refine held_take (i := 1) (v := (.pointer (some ⟨b, 0, none⟩))) rfl (by kernel_rfl) (by kernel_rfl) (by kernel_rfl) (fun _ _ _ h => h) (Or.inl ⟨by rfl, fun w' _ => by kernel_rfl⟩) hHeld ?_
  go_frame
  refine held_take (i := 2) (v := (.pointer (some ⟨b, 32, none⟩))) rfl (by kernel_rfl) (by kernel_rfl) (by kernel_rfl) (fun _ _ _ h => h) (Or.inl ⟨by rfl, fun w' _ => by kernel_rfl⟩) hHeld ?_
  go_frame
  refine held_take (i := 3) (v := (.map (some mb))) rfl (by kernel_rfl) (by kernel_rfl) (by kernel_rfl) (fun _ _ _ h => h) (yieldsIf_load_one (by rfl) 65 (.tmp 16) rfl b (32) rfl _ _ (fun w' hw' => (HT.out.below (B1.out.trans (hw'.mono B1.out.size))).mcell LS.out) Tryd.underlying65 rfl) hHeld ?_
  go_frame
  refine held_take (i := 4) (v := (.agg ci.toArray)) rfl (by kernel_rfl) (by kernel_rfl) (by kernel_rfl) (fun _ _ _ h => h) (yieldsIf_load_row (by rfl) 30 (.tmp 5) rfl g5 rfl 30 ci.toArray (0, 0) _ (fun w' hw' => row_below F5.out hw') Tryd.underlying30 rfl (by show _ = some ci.length; rw [LCI.out]; kernel_rfl)) hHeld ?_
  go_frame
  refine held_take (i := 5) (v := (.tuple #[oa, .bool qa])) rfl (by kernel_rfl) (by kernel_rfl) (by kernel_rfl) (fun _ _ _ h => h) (yieldsIf_lookup (by rfl) 65 (.tmp 17) (.tmp 18) true rfl _ _ _ rfl rfl (fun w' hw' => LKA.out w' (B1.out.trans (hw'.mono B1.out.size)))) hHeld ?_
  go_frame
  refine held_take (i := 6) (v := (.tuple #[oa, .bool qa])) rfl (by kernel_rfl) (by kernel_rfl) (by kernel_rfl) (fun _ _ _ h => h) (Or.inl ⟨by rfl, fun w' _ => by kernel_rfl⟩) hHeld ?_
  go_frame
  refine held_take (i := 7) (v := oa) rfl (by kernel_rfl) (by kernel_rfl) (by kernel_rfl) (fun _ _ _ h => h) (Or.inl ⟨by rfl, fun w' _ => by kernel_rfl⟩) hHeld ?_
  go_frame
  refine held_take (i := 8) (v := (.bool qa)) rfl (by kernel_rfl) (by kernel_rfl) (by kernel_rfl) (fun _ _ _ h => h) (Or.inl ⟨by rfl, fun w' _ => by kernel_rfl⟩) hHeld ?_
  go_frame
  refine held_take (i := 9) (v := oa) rfl (by kernel_rfl) (by kernel_rfl) (by kernel_rfl) (fun _ _ _ h => h) (Or.inl ⟨by rfl, fun w' _ => by kernel_rfl⟩) hHeld ?_
  go_frame
  refine held_take (i := 10) (v := (.bool qa)) rfl (by kernel_rfl) (by kernel_rfl) (by kernel_rfl) (fun _ _ _ h => h) (Or.inl ⟨by rfl, fun w' _ => by kernel_rfl⟩) hHeld ?_
  go_frame
  refine wpAnyH_done (by kernel_rfl) ?_ _
  obtain ⟨v9, hv9⟩ : ∃ v9, v9 = wd := ⟨_, rfl⟩
  rw [← hv9] at  hHeld ⊢
  clear hv9
  have F3 := Lib.hid (row_below F3.out hHeld)
  have F5 := Lib.hid (row_below F5.out hHeld)
  have B2 := Lib.hid (B1.out.trans (hHeld.mono B1.out.size))
  clear hHeld LKA B1
  have ck := (CEE.out.below B2.out).known
  rcases CAA.out with ⟨h1, rfl, rfl⟩ | ⟨k, c, h1, h2, h3, rfl, rfl⟩
  case inr =>
    have AE : Hid (addE (ndM M) hd = 109) := by show _ = _; unfold addE; rw [← IDE.out, if_pos (by omega)]
    clear h1 h2 h3
    go_wp2_with fail
    go_ret
    exact ⟨by rw [AE.out]; rfl, fun _ => B2.out, fun e => absurd e (by rw [AE.out]; decide)⟩
  case inl =>
    have N1 := Lib.hid h1
    clear h1 ck
    go_upto_region 5 with fail
    refine wp_region_held_drew (S := (fun w' => Below v9.heap.size v9 w')) (by kernel_rfl) (Below.drew (Below.refl _ _)) (fun hHeld => ?_)
    generalize hwd : v9.drew = wd at  hHeld ⊢
    clear hwd
    refine held_take (i := 0) (v := (.pointer (some ⟨b, 0, none⟩))) rfl (by kernel_rfl) (by kernel_rfl) (by kernel_rfl) (fun _ _ _ h => h) (Or.inl ⟨by rfl, fun w' _ => by kernel_rfl⟩) hHeld ?_
    go_frame
    refine held_take (i := 1) (v := (.pointer (some ⟨b, 0, none⟩))) rfl (by kernel_rfl) (by kernel_rfl) (by kernel_rfl) (fun _ _ _ h => h) (Or.inl ⟨by rfl, fun w' _ => by kernel_rfl⟩) hHeld ?_
    go_frame
    refine held_take (i := 2) (v := (.pointer (some ⟨b, 32, none⟩))) rfl (by kernel_rfl) (by kernel_rfl) (by kernel_rfl) (fun _ _ _ h => h) (Or.inl ⟨by rfl, fun w' _ => by kernel_rfl⟩) hHeld ?_
    go_frame
    refine held_take (i := 3) (v := (.map (some mb))) rfl (by kernel_rfl) (by kernel_rfl) (by kernel_rfl) (fun _ _ _ h => h) (yieldsIf_load_one (by rfl) 65 (.tmp 27) rfl b (32) rfl _ _ (fun w' hw' => (HT.out.below (B2.out.trans (hw'.mono B2.out.size))).mcell LS.out) Tryd.underlying65 rfl) hHeld ?_
    go_frame
    refine held_take (i := 4) (v := (.pointer (some ⟨g3, 1, none⟩))) rfl (by kernel_rfl) (by kernel_rfl) (by kernel_rfl) (fun _ _ _ h => h) (Or.inl ⟨by rfl, fun w' _ => by kernel_rfl⟩) hHeld ?_
    go_frame
    refine held_take (i := 5) (v := (.agg cp.toArray)) rfl (by kernel_rfl) (by kernel_rfl) (by kernel_rfl) (fun _ _ _ h => h) (Sha.yieldsIf_load_mid (by rfl) 30 (.tmp 29) rfl g3 (1) rfl cp _ (fun w' hw' => CP.out _ _ (row_below F3.out hw')) Tryd.underlying30 rfl (by rw [LCP.out]; kernel_rfl)) hHeld ?_
    go_frame
    refine held_take (i := 6) (v := (.tuple #[ob, .bool qb])) rfl (by kernel_rfl) (by kernel_rfl) (by kernel_rfl) (fun _ _ _ h => h) (yieldsIf_lookup (by rfl) 65 (.tmp 28) (.tmp 30) true rfl _ _ _ rfl rfl (fun w' hw' => LKB.out w' (B2.out.trans (hw'.mono B2.out.size)))) hHeld ?_
    go_frame
    refine held_take (i := 7) (v := (.tuple #[ob, .bool qb])) rfl (by kernel_rfl) (by kernel_rfl) (by kernel_rfl) (fun _ _ _ h => h) (Or.inl ⟨by rfl, fun w' _ => by kernel_rfl⟩) hHeld ?_
    go_frame
    refine held_take (i := 8) (v := ob) rfl (by kernel_rfl) (by kernel_rfl) (by kernel_rfl) (fun _ _ _ h => h) (Or.inl ⟨by rfl, fun w' _ => by kernel_rfl⟩) hHeld ?_
    go_frame
    refine held_take (i := 9) (v := (.bool qb)) rfl (by kernel_rfl) (by kernel_rfl) (by kernel_rfl) (fun _ _ _ h => h) (Or.inl ⟨by rfl, fun w' _ => by kernel_rfl⟩) hHeld ?_
    go_frame
    refine held_take (i := 10) (v := ob) rfl (by kernel_rfl) (by kernel_rfl) (by kernel_rfl) (fun _ _ _ h => h) (Or.inl ⟨by rfl, fun w' _ => by kernel_rfl⟩) hHeld ?_
    go_frame
    refine held_take (i := 11) (v := (.bool qb)) rfl (by kernel_rfl) (by kernel_rfl) (by kernel_rfl) (fun _ _ _ h => h) (Or.inl ⟨by rfl, fun w' _ => by kernel_rfl⟩) hHeld ?_
    go_frame
    refine wpAnyH_done (by kernel_rfl) ?_ _
    obtain ⟨v8, hv8⟩ : ∃ v8, v8 = wd := ⟨_, rfl⟩
    rw [← hv8] at  hHeld ⊢
    clear hv8
    have F3 := Lib.hid (row_below F3.out hHeld)
    have F5 := Lib.hid (row_below F5.out hHeld)
    have B3 := Lib.hid (B2.out.trans (hHeld.mono B2.out.size))
    clear hHeld LKB B2
    have ck := (CEE.out.below B3.out).parent
    rcases CAB.out with ⟨h1, rfl, rfl⟩ | ⟨k, c, h1, h2, h3, rfl, rfl⟩
    case inl =>
      have AE : Hid (addE (ndM M) hd = 110) := by show _ = _; unfold addE; rw [← IDE.out, N1.out, if_neg (by decide), h1, if_pos (by decide)]
      clear h1
      go_wp2_with fail
      go_ret
      exact ⟨by rw [AE.out]; rfl, fun _ => B3.out, fun e => absurd e (by rw [AE.out]; decide)⟩
    case inr =>
      clear ck
      have N2 := Lib.hid h1
      have HC := Lib.hid h2
      have HTB := Lib.hid (HT.out.below B3.out)
      have hq := fun ty => gm_len mty_nodes HTB.out.mp ty
      have c32 := HTB.out.mcell LS.out
      have ck := (CEE.out.below B3.out).full
      have EL : (idsM M).length = (ndM M).length := by unfold idsM ndM; rw [List.length_map, List.length_map]
      rw [EL] at hq
      obtain ⟨n, hn⟩ : ∃ n, n = (ndM M).length := ⟨_, rfl⟩
      rw [← hn] at hq
      have LN := Lib.hid hn
      clear EL hn h1 h2 h3
      by_cases hfull : 4096 ≤ n
      · have AE : Hid (addE (ndM M) hd = 121) := by show _ = _; unfold addE; rw [← IDE.out, N1.out, if_neg (by decide), N2.out, if_neg (by omega), if_pos (by rw [← LN.out]; exact hfull)]
        have q1 : (4096 : Int) ≤ (n : Int) := by omega
        go_wp2_with fail
        go_ret
        exact ⟨by rw [AE.out]; rfl, fun _ => B3.out, fun e => absurd e (by rw [AE.out]; decide)⟩
      · have AE : Hid (addE (ndM M) hd = 0) := by show _ = _; unfold addE; rw [← IDE.out, N1.out, if_neg (by decide), N2.out, if_neg (by omega), if_neg (by rw [← LN.out]; exact hfull)]
        have q1 : (n : Int) < 4096 := by omega
        have QN := Lib.hid q1
        go_upto_region 10 with fail
        clear hq c32 ck hfull q1
        have NXH : Hid ((nxT (ndM M) hd).height = c.nd.height + 1) := by show _ = _; unfold nxT; rw [N2.out]; simp only [getD_int (ndM_at HC.out)]
        have NXW : Hid ((nxT (ndM M) hd).work = (c.nd.work + hd.work) % 18446744073709551616) := by show _ = _; unfold nxT; rw [N2.out]; simp only [getD_int (ndM_at HC.out)]
        have NXP : Hid ((nxT (ndM M) hd).parent = (k : Int)) := N2.out
        have NXI : Hid ((nxT (ndM M) hd).id = id) := IDE.out.symm
        have XH : Hid (0 ≤ c.nd.height ∧ c.nd.height ≤ 4096 ∧ c.nd.work ≤ 18446744073709551615) := by
          have ok := TR.out.ok _ (List.mem_of_getElem? (ndM_at HC.out))
          exact ⟨ok.2.2.2.2.1, ok.2.2.2.2.2.1, ok.2.2.2.2.2.2⟩
        have CC : Hid (∀ U, Below v8.heap.size v8 U → U.cell? ⟨c.ad, 100, none⟩ = some (.int .i64 c.nd.height) ∧ U.cell? ⟨c.ad, 101, none⟩ = some (.int .u64 (c.nd.work : Int)) ∧ U.cell? ⟨c.ad, 102, none⟩ = some (nptr (cnP M c.nd.parent)) ∧ U.cell? ⟨c.ad, 103, none⟩ = some c.kids) := fun U hU => HT.out.cells TR.out HC.out (B3.out.trans (hU.mono B3.out.size))
        have BN := Lib.hid (BN.out (some c.ad))
        have LXN := Lib.hid (LXN.out (some c.ad))
        obtain ⟨nx, hnx⟩ : ∃ nx, nx = nxT (ndM M) hd := ⟨_, rfl⟩
        rw [← hnx] at BN LXN NXH NXW NXP NXI
        have NXE := Lib.hid hnx
        rw [NXH.out, NXW.out] at BN
        obtain ⟨wk, hwk⟩ : ∃ wk, wk = (c.nd.work + hd.work) % 18446744073709551616 := ⟨_, rfl⟩
        rw [← hwk] at BN
        have WKE := Lib.hid hwk
        obtain ⟨cx, hcx⟩ : ∃ cx, cx = cnL nx (some c.ad) (.slice none 0 0) := ⟨_, rfl⟩
        rw [← hcx] at BN LXN
        have CXE := Lib.hid hcx
        have BN2 : Hid (Tryd.prog.built 64 [(0, .agg ci.toArray), (1, .agg cs.toArray), (2, .int .i64 (c.nd.height + 1)), (3, .int .u64 (wk : Int)), (4, .pointer (some ⟨c.ad, 0, none⟩))] = some cx.toArray) := BN.out
        obtain ⟨H, hH⟩ : ∃ H, H = c.nd.height := ⟨_, rfl⟩
        obtain ⟨wp, hwp⟩ : ∃ wp, wp = c.nd.work := ⟨_, rfl⟩
        rw [← hH, ← hwp] at CC XH
        rw [← hH] at BN2 NXH
        rw [← hwp] at WKE
        clear hnx hwk hcx hH hwp BN
        refine wp_region_held_drew (S := (fun w' => Below v8.heap.size v8 w')) (by kernel_rfl) (Below.drew (Below.refl _ _)) (fun hHeld => ?_)
        generalize hwd : v8.drew = wd at  hHeld ⊢
        clear hwd
        refine held_take (i := 0) (v := (.agg ci.toArray)) rfl (by kernel_rfl) (by kernel_rfl) (by kernel_rfl) (fun _ _ _ h => h) (yieldsIf_load_row (by rfl) 30 (.tmp 5) rfl g5 rfl 30 ci.toArray (0, 0) _ (fun w' hw' => row_below F5.out hw') Tryd.underlying30 rfl (by show _ = some ci.length; rw [LCI.out]; kernel_rfl)) hHeld ?_
        go_frame
        refine held_take (i := 1) (v := (.agg cs.toArray)) rfl (by kernel_rfl) (by kernel_rfl) (by kernel_rfl) (fun _ _ _ h => h) (yieldsIf_load_row (by rfl) 32 (.tmp 3) rfl g3 rfl 32 cs.toArray (0, 0) _ (fun w' hw' => row_below F3.out hw') Tryd.underlying32 rfl (by show _ = some cs.length; rw [LC.out]; kernel_rfl)) hHeld ?_
        go_frame
        refine held_take (i := 2) (v := (.pointer (some ⟨c.ad, 0, none⟩))) rfl (by kernel_rfl) (by kernel_rfl) (by kernel_rfl) (fun _ _ _ h => h) (Or.inl ⟨by rfl, fun w' _ => by kernel_rfl⟩) hHeld ?_
        go_frame
        refine held_take (i := 3) (v := (.pointer (some ⟨c.ad, 0, none⟩))) rfl (by kernel_rfl) (by kernel_rfl) (by kernel_rfl) (fun _ _ _ h => h) (Or.inl ⟨by rfl, fun w' _ => by kernel_rfl⟩) hHeld ?_
        go_frame
        refine held_take (i := 4) (v := (.pointer (some ⟨c.ad, 100, none⟩))) rfl (by kernel_rfl) (by kernel_rfl) (by kernel_rfl) (fun _ _ _ h => h) (Or.inl ⟨by rfl, fun w' _ => by kernel_rfl⟩) hHeld ?_
        go_frame
        refine held_take (i := 5) (v := (.int .i64 H)) rfl (by kernel_rfl) (by kernel_rfl) (by kernel_rfl) (fun _ _ _ h => h) (yieldsIf_load_one (by rfl) 3 (.tmp 48) rfl c.ad (100) rfl _ _ (fun w' hw' => (CC.out w' hw').1) Tryd.underlying3 rfl) hHeld ?_
        go_frame
        refine held_take (i := 6) (v := (.int .i64 (H + 1))) rfl (by kernel_rfl) (by kernel_rfl) (by kernel_rfl) (fun _ _ _ h => h) (Or.inl ⟨by rfl, fun w' _ => by go_simp; have := XH.out; rw [IntKind.wrap_i64]; omega⟩) hHeld ?_
        go_frame
        refine held_take (i := 7) (v := (.pointer (some ⟨c.ad, 0, none⟩))) rfl (by kernel_rfl) (by kernel_rfl) (by kernel_rfl) (fun _ _ _ h => h) (Or.inl ⟨by rfl, fun w' _ => by kernel_rfl⟩) hHeld ?_
        go_frame
        refine held_take (i := 8) (v := (.pointer (some ⟨c.ad, 0, none⟩))) rfl (by kernel_rfl) (by kernel_rfl) (by kernel_rfl) (fun _ _ _ h => h) (Or.inl ⟨by rfl, fun w' _ => by kernel_rfl⟩) hHeld ?_
        go_frame
        refine held_take (i := 9) (v := (.pointer (some ⟨c.ad, 101, none⟩))) rfl (by kernel_rfl) (by kernel_rfl) (by kernel_rfl) (fun _ _ _ h => h) (Or.inl ⟨by rfl, fun w' _ => by kernel_rfl⟩) hHeld ?_
        go_frame
        refine held_take (i := 10) (v := (.int .u64 (wp : Int))) rfl (by kernel_rfl) (by kernel_rfl) (by kernel_rfl) (fun _ _ _ h => h) (yieldsIf_load_one (by rfl) 53 (.tmp 53) rfl c.ad (101) rfl _ _ (fun w' hw' => (CC.out w' hw').2.1) Tryd.underlying53 rfl) hHeld ?_
        go_frame
        refine held_take (i := 11) (v := (.pointer (some ⟨g3, 66, none⟩))) rfl (by kernel_rfl) (by kernel_rfl) (by kernel_rfl) (fun _ _ _ h => h) (Or.inl ⟨by rfl, fun w' _ => by kernel_rfl⟩) hHeld ?_
        go_frame
        refine held_take (i := 12) (v := (.int .u32 (hd.work : Int))) rfl (by kernel_rfl) (by kernel_rfl) (by kernel_rfl) (fun _ _ _ h => h) (yieldsIf_load_one (by rfl) 28 (.tmp 55) rfl g3 (66) rfl _ _ (fun w' hw' => CW.out _ _ (row_below F3.out hw')) Tryd.underlying28 rfl) hHeld ?_
        go_frame
        refine held_take (i := 13) (v := (.int .u64 (hd.work : Int))) rfl (by kernel_rfl) (by kernel_rfl) (by kernel_rfl) (fun _ _ _ h => h) (Or.inl ⟨by rfl, fun w' _ => by go_simp; have := HW.out; rw [IntKind.wrap_u64]; omega⟩) hHeld ?_
        go_frame
        refine held_take (i := 14) (v := (.int .u64 (wk : Int))) rfl (by kernel_rfl) (by kernel_rfl) (by kernel_rfl) (fun _ _ _ h => h) (Or.inl ⟨by rfl, fun w' _ => by go_simp; rw [WKE.out, IntKind.wrap_u64]; omega⟩) hHeld ?_
        go_frame
        refine held_take (i := 15) (v := (.pointer (some ⟨c.ad, 0, none⟩))) rfl (by kernel_rfl) (by kernel_rfl) (by kernel_rfl) (fun _ _ _ h => h) (Or.inl ⟨by rfl, fun w' _ => by kernel_rfl⟩) hHeld ?_
        go_frame
        refine held_take (i := 16) (v := (.agg cx.toArray)) rfl (by kernel_rfl) (by kernel_rfl) (by kernel_rfl) (fun _ _ _ h => h) (yieldsIf_build (by rfl) 64 _ rfl [(0, .agg ci.toArray), (1, .agg cs.toArray), (2, .int .i64 (H + 1)), (3, .int .u64 (wk : Int)), (4, .pointer (some ⟨c.ad, 0, none⟩))] (by kernel_rfl) _ BN2.out) hHeld ?_
        go_frame
        refine wpAnyH_ready (rs := [17]) (by kernel_rfl) (by simp) (held_cons rfl (fun K hK => ?_) AllReadyH.nil)
        go_simp
        have nf := heap_alloc_new wd (.cells (cx).toArray 64 (0, 0))
        have bb := (Below.refl wd.heap.size wd).alloc (Nat.le_refl _) (.cells (cx).toArray 64 (0, 0))
        obtain ⟨gv1, hgv1⟩ : ∃ g, g = wd.heap.size := ⟨_, rfl⟩
        have GNF : Hid (v8.heap.size ≤ gv1) := by show _ ≤ _; rw [hgv1]; exact hHeld.size
        generalize hqv1 : World.alloc _ _ = v1
        have ev1 : wd.alloc (.cells (cx).toArray 64 (0, 0)) = v1 := hqv1
        rw [ev1] at nf bb
        rw [← hgv1] at nf ⊢
        have NF := Lib.hid nf
        have hv1 := hHeld.trans (bb.mono hHeld.size)
        clear nf bb hqv1 ev1 hgv1 hHeld
        refine hK.out _ _ hv1 (fun hHeld => ?_)
        clear hK K hv1
        refine held_take (i := 18) (v := (.pointer (some ⟨gv1, 0, none⟩))) rfl (by kernel_rfl) (by kernel_rfl) (by kernel_rfl) (fun _ _ _ h => h) (Or.inl ⟨by rfl, fun w' _ => by kernel_rfl⟩) hHeld ?_
        go_frame
        refine wpAnyH_done (by kernel_rfl) ?_ _
        obtain ⟨v7, hv7⟩ : ∃ v7, v7 = v1 := ⟨_, rfl⟩
        rw [← hv7] at NF hHeld ⊢
        clear hv7
        have F5 := Lib.hid (row_below F5.out hHeld)
        have B4 := Lib.hid (B3.out.trans (hHeld.mono B3.out.size))
        have c103 := (CC.out v7 hHeld).2.2.2
        have GN : Hid (w.heap.size ≤ gv1) := by have := GNF.out; have := B3.out.size; show _ ≤ _; omega
        clear hHeld CC F3 B3
        have BS7 : Hid (base ≤ v7.heap.size) := Nat.le_trans HBS.out B4.out.size
        have HT7 := Lib.hid (HT.out.below B4.out)
        have RK := Lib.hid (HT7.out.kid k c HC.out)
        have NOD := Lib.hid (HT7.out.node k c HC.out)
        have NE5 : Hid (c.ad ≠ g5) := fun e => by
          have q := NOD.out
          rw [e, F5.out] at q
          injection q with q
          injection q with _ q _
          exact absurd q (by decide)
        have NEG : Hid (c.ad ≠ gv1) := by
          have h1 := (Array.getElem?_eq_some_iff.1 (HTB.out.node k c HC.out)).1
          have := GNF.out
          show _ ≠ _
          omega
        have NEM : Hid (mb ≠ c.ad) := fun e => HT.out.mp.ne (HT.out.node k c HC.out) e.symm
        have NG : Hid (putG (idsM M) id (some gv1) = idsM M ++ [(id, some gv1)]) := by
          have h1 : ∀ x ∈ ndM M, x.id ≠ id := by
            rcases findT_cases (ndM M) id with ⟨_, h⟩ | ⟨q, x, h, _⟩
            · exact h
            · have := N1.out; omega
          show _ = _
          unfold putG
          rw [getG_ids_none h1]
          rfl
        obtain ⟨A, hA⟩ : ∃ A, A = c.nd.id.map bV ++ (hdL c.nd.h ++ [.int .i64 c.nd.height, .int .u64 (c.nd.work : Int), nptr (cnP M c.nd.parent)]) := ⟨_, rfl⟩
        have CL : Hid (∀ v, (A ++ [v] ++ []).toArray = (cnL c.nd (cnP M c.nd.parent) v).toArray) := fun v => by rw [hA]; unfold cnL; simp
        have PL : Hid (A.length = 103) := by
          have ok := TR.out.ok _ (List.mem_of_getElem? (ndM_at HC.out))
          show _ = _
          rw [hA, List.length_append, List.length_append, List.length_map, ok.1, hdL_length ok.2.1]
          rfl
        have NODX : Hid (v7.heap[c.ad]? = some (.cells (A ++ [c.kids] ++ []).toArray 64 (0, 0))) := by show _ = _; rw [CL.out]; exact NOD.out
        obtain ⟨L, hL⟩ : ∃ L, L = kidsM M k := ⟨_, rfl⟩
        have LE := Lib.hid hL
        rw [← hL] at RK
        have DL : Hid (L.length ≤ 4096) := by
          show _ ≤ _
          rw [hL]
          unfold kidsM kidsI
          rw [List.length_map]
          refine Nat.le_trans (List.length_filter_le _ _) ?_
          rw [List.length_range, ← LN.out]
          have := QN.out
          omega
        clear hL hA
        go_upto_region 12 with (first | ((with_reducible show wpList _ _ _ _ _ _); (refine wpList_store_part rfl 62 (.tmp 71) (.tmp 69) rfl c.ad 103 A [c.kids] [] [nv] 64 nv rfl rfl (cells_one VO.out) PL.out rfl NOD2.out (by kernel_rfl) (one_mem VO.out) ?_; intro w9 q1 q2; have NOD3 : Hid (w9.heap[c.ad]? = some (.cells (cnL c.nd (cnP M c.nd.parent) nv).toArray 64 (0, 0))) := (by show _ = _; rw [q1, CL.out nv]); have RK3 := Lib.hid (RK2.out.kept q2 (.inr (own_ne' RK2.out.1 NOD2.out (by decide)))); have NF3 := Lib.hid (row_far NF2.out q2 (fun e => NEG.out (Option.some.inj e))); have KP3 := Lib.hid (KP2.out.trans (Kps.grown q2 fun j _ hj e => hj.1 (Option.some.inj e))); have F53 := Lib.hid (row_far F52.out q2 (fun e => NE5.out (Option.some.inj e))); clear q1 q2; go_frame)) | (at_builtin; refine wpList_append_own_at _ rfl _ _ 62 rfl base 61 i0 (.pointer none) 1 8 Tryd.underlying62 hi hz0 hz1 hz2 (by kernel_rfl) (by decide) c.kids _ L.flatten rfl (RK.out.1.alloc _) ⟨v7.heap.size, 0, none⟩ 1 1 [(.pointer (some ⟨gv1, 0, none⟩))] rfl rfl (cell_one_new _ _ _) (fun u hu => by rcases List.mem_singleton.1 hu with rfl; rfl) (by have := DL.out; unfold maxLen; omega) (by have := DL.out; omega) (by simp only [World.size_alloc]; have := BS7.out; omega) ?_; intro nv w8 q1 q2 _ q4; have VO := Lib.hid (own_one q1); have RK2 : Hid (RwOwn 1 61 base w8 nv (L ++ [[(.pointer (some ⟨gv1, 0, none⟩))]])) := RwOwn.push RK.out.2 rfl q1; have q0 := (Below.refl v7.heap.size v7).alloc (Nat.le_refl _) (.cells #[(.pointer (some ⟨gv1, 0, none⟩))] 61); have NOD2 := Lib.hid (row_far (row_below NODX.out q0) q2 (own_ne' RK.out.1 NOD.out (by decide))); have NF2 := Lib.hid (row_far (row_below NF.out q0) q2 (own_ne' RK.out.1 NF.out (by decide))); have F52 := Lib.hid (row_far (row_below F5.out q0) q2 (own_ne' RK.out.1 F5.out (by decide))); have KP2 := Lib.hid (((Kps.new (F := fun j => j ≠ c.ad ∧ c.kids.ownBlock ≠ some j) B4.out).trans (Kps.new q0)).trans (Kps.grown q2 fun j _ hj e => hj.2 e.symm)); have Q4 := Lib.hid q4; clear q1 q2 q4 q0; go_frame))
        have OWB : Hid (nv.ownBlock = c.kids.ownBlock ∨ ∃ q, nv.ownBlock = some q ∧ w.heap.size ≤ q) := by
          rcases Q4.out with e | e
          · exact .inl e
          · exact .inr ⟨_, e, by simp only [World.size_alloc]; have := B4.out.size; omega⟩
        have MP9 := Lib.hid (HT.out.mp.kps KP3.out ⟨NEM.out, own_nemap HT.out.mp (HT.out.kid k c HC.out).1⟩)
        have BX9 := Lib.hid (row_kps HT.out.box KP3.out ⟨fun e => by
          have q := HT.out.node k c HC.out
          rw [← e, HT.out.box] at q
          injection q with q
          injection q with _ q _
          exact absurd q (by decide), own_ne' (HT.out.kid k c HC.out).1 HT.out.box (by decide)⟩)
        have MC9 : Hid (w9.cell? ⟨b, 32, none⟩ = some (.map (some mb))) := by
          show _ = _
          rw [cell_of_row _ _ _ _ _ _ BX9.out, List.getElem?_toArray, List.getElem?_append_right (by rw [List.length_map, LS.out]; exact Nat.le_refl _), List.length_map, LS.out]
          rfl
        clear Q4 RK RK2 NOD NODX NOD2 NF NF2 F5 F52 KP2 c103 BX9 HT7 HTB NE5 CL PL B4
        refine wp_region_end (fun w' => Below w9.heap.size w9 w') [6] (by kernel_rfl) (Below.drew (Below.refl _ _)) (fun hHeld => ?_)
        generalize hwd : w9.drew = wd at  hHeld ⊢
        clear hwd
        refine end_take (i := 0) (v := (.pointer (some ⟨b, 0, none⟩))) rfl (by kernel_rfl) (by kernel_rfl) (by kernel_rfl) (by kernel_rfl) (fun _ _ _ h => h) (Or.inl ⟨by rfl, fun w' _ => by kernel_rfl⟩) hHeld ?_
        go_frame
        refine end_take (i := 1) (v := (.pointer (some ⟨b, 0, none⟩))) rfl (by kernel_rfl) (by kernel_rfl) (by kernel_rfl) (by kernel_rfl) (fun _ _ _ h => h) (Or.inl ⟨by rfl, fun w' _ => by kernel_rfl⟩) hHeld ?_
        go_frame
        refine end_take (i := 2) (v := (.pointer (some ⟨b, 32, none⟩))) rfl (by kernel_rfl) (by kernel_rfl) (by kernel_rfl) (by kernel_rfl) (fun _ _ _ h => h) (Or.inl ⟨by rfl, fun w' _ => by kernel_rfl⟩) hHeld ?_
        go_frame
        refine end_take (i := 3) (v := (.map (some mb))) rfl (by kernel_rfl) (by kernel_rfl) (by kernel_rfl) (by kernel_rfl) (fun _ _ _ h => h) (yieldsIf_load_one (by rfl) 65 (.tmp 74) rfl b (32) rfl _ _ (fun w' hw' => cell_below MC9.out hw') Tryd.underlying65 rfl) hHeld ?_
        go_frame
        refine end_take (i := 4) (v := (.agg ci.toArray)) rfl (by kernel_rfl) (by kernel_rfl) (by kernel_rfl) (by kernel_rfl) (fun _ _ _ h => h) (yieldsIf_load_row (by rfl) 30 (.tmp 5) rfl g5 rfl 30 ci.toArray (0, 0) _ (fun w' hw' => row_below F53.out hw') Tryd.underlying30 rfl (by show _ = some ci.length; rw [LCI.out]; kernel_rfl)) hHeld ?_
        go_frame
        refine end_take (i := 5) (v := (.pointer (some ⟨gv1, 0, none⟩))) rfl (by kernel_rfl) (by kernel_rfl) (by kernel_rfl) (by kernel_rfl) (fun _ _ _ h => h) (Or.inl ⟨by rfl, fun w' _ => by kernel_rfl⟩) hHeld ?_
        go_frame
        refine end_last (i := 6) (by kernel_rfl) (by kernel_rfl) rfl (fun K hK => ?_)
        rw [if_pos (by rfl)]
        refine wp_put_gm mty_nodes (.tmp 75) (.tmp 76) (.tmp 77) rfl id LID.out (some gv1) rfl (by show Value.agg ci.toArray = Sha.hK id; rw [CIE.out]; rfl) rfl (MP9.out.below hHeld) ?_
        intro v1 q1 q2
        rw [NG.out] at q1
        have KPF : Hid (Kps (fun j => j ≠ mb ∧ j ≠ c.ad ∧ c.kids.ownBlock ≠ some j) w v1) := ((KP3.out.mono fun _ _ h => h.2).trans (Kps.new hHeld)).trans (Kps.grown q2 fun j _ hj e => hj.1 (Option.some.inj e))
        have CTP := Lib.hid (HT.out.push TR.out.down HC.out NXP.out KPF.out GN.out HBS.out (row_far (row_below NOD3.out hHeld) q2 (fun e => NEM.out (Option.some.inj e))) (by rw [← LE.out]; exact (RK3.out.keep hHeld).kept q2 (.inr (own_nemap MP9.out RK3.out.1))) (by have h := row_far (row_below NF3.out hHeld) q2 (fun e => (MP9.out.ne NF3.out) (Option.some.inj e).symm); rw [CXE.out] at h; exact h) OWB.out (by rw [NXI.out]; exact q1))
        clear q1 q2 hHeld
        go_frame
        refine hK.out _ _ ?_
        clear hK K
        refine end_done (by kernel_rfl) ?_ _
        go_wp2_with fail
        go_ret
        exact ⟨by rw [AE.out]; rfl, fun e => absurd AE.out e, fun _ => ⟨_, by rw [pushM_nd, NXE.out], CTP.out, KPF.out.mono fun j _ hj => ⟨hj.1, hj.2 c (List.mem_of_getElem? HC.out)⟩⟩⟩
end Go.Proofs.YtnhmjlljnckieaaDoor.Sha

/-
  A row of digests turned round in place: the library's Reverse. Condition: the row is one of its own.
-/
namespace Go.Proofs.YtnhmjlljnckieaaDoor.Sha
open Go Go.RowKit
open Go.Shelf Go.Lib Go.Sort
def rev_lay_ren : Go.Shelf.Ren := ⟨fun | 35 => 27 | n => n, fun | 22 => 38 | 23 => 30 | 3 => 3 | 4 => 4 | 0 => 0 | n => n, fun | n => n⟩
theorem rev_lay : Go.Proofs.SlLaysE0.n35 Tryd.prog rev_lay_ren := {
  mixed := by kernel_rfl
  f35 := ⟨Tryd.f27.name, by decide, Tryd.func27.trans (congrArg some (by kernel_rfl))⟩
  t0 := Tryd.underlying0
  a0 := Tryd.isAgg0
  z0 := Tryd.sizeOf0
  v0 := Tryd.zeroValue0
  t3 := Tryd.underlying3
  a3 := Tryd.isAgg3
  z3 := Tryd.sizeOf3
  v3 := Tryd.zeroValue3
  t4 := Tryd.underlying4
  a4 := Tryd.isAgg4
  z4 := Tryd.sizeOf4
  v4 := Tryd.zeroValue4
  t22 := Tryd.underlying38
  a22 := Tryd.isAgg38
  z22 := Tryd.sizeOf38
  v22 := Tryd.zeroValue38 }
abbrev OH : Type := {x : List UInt8 // x.length = 32}
instance : Inhabited OH := ⟨⟨List.replicate 32 0, rfl⟩⟩
def encH (x : OH) : List Value := x.1.map bV
theorem encH_len (x : OH) : (encH x).length = 32 := by unfold encH; rw [List.length_map]; exact x.2
theorem encH_one (x : OH) : ∀ v ∈ encH x, v.oneCell' = true := bV_one' _
theorem lift_hs : ∀ (l : List (List UInt8)), HsOk l → ∃ d : List OH, d.map (·.1) = l
  | [], _ => ⟨[], rfl⟩
  | x :: l, h => by
    obtain ⟨d, hd⟩ := lift_hs l (fun y hy => h y (List.mem_cons_of_mem _ hy))
    exact ⟨⟨x, h x (List.mem_cons_self ..)⟩ :: d, by rw [List.map_cons, hd]⟩
theorem hsL_enc (d : List OH) : hsL (d.map (·.1)) = (d.map encH).flatten := by
  unfold hsL
  rw [List.flatMap_def, List.map_map]
  rfl
theorem allK_encH (d : List OH) : AllK 32 (d.map encH) := fun x hx => by
  obtain ⟨y, _, rfl⟩ := List.mem_map.1 hx
  exact encH_len y
theorem holds_hs {w : World} {g cap base : Nat} {d : List OH} (h : w.ownsRow base 30 32 (.slice (some ⟨g, 0, none⟩) d.length cap) d.length (d.map encH).flatten) : HoldsK encH 32 w g 0 d.toArray := by
  intro t ht
  simp only [size_flatK, List.size_toArray] at ht
  rw [get_flatK _ _ _ _ (by simpa using ht), Nat.zero_add]
  refine ⟨?_, ?_⟩
  · have h1 : t / 32 < d.length := Nat.div_lt_of_lt_mul (by omega)
    have h2 : t % 32 < 32 := Nat.mod_lt _ (by omega)
    have h3 : (d.map encH)[t / 32]? = some (encH (d[t / 32]'h1)) := by rw [List.getElem?_map, List.getElem?_eq_getElem h1]; rfl
    have h4 := flatten_get (d.map encH) (t / 32) _ (allK_encH d) h3 (t % 32) h2
    rw [show t / 32 * 32 + t % 32 = t by omega] at h4
    have h5 : (encH (d[t / 32]'h1)).length = 32 := encH_len _
    rw [h.cellAt t ht, h4, getElem!_pos d.toArray (t / 32) (by simpa using h1)]
    simp only [List.getElem_toArray, id]
    rw [getElem!_pos (encH (d[t / 32]'h1)) (t % 32) (by omega), List.getElem?_eq_getElem (by omega)]
  · rcases h.2 with ⟨hv, _⟩ | ⟨g', cap', cur, hv, _, hb, _⟩
    · cases hv
    · cases hv
      simp [World.frozen?, hb]
theorem hsAt_holds {w : World} {g cap : Nat} {d : List OH} (h : HoldsK encH 32 w g 0 d.toArray) (hc : d.length ≤ cap) : HsAt w (.slice (some ⟨g, 0, none⟩) d.length cap) (d.map (·.1)) := by
  refine ⟨fun x hx => ?_, some ⟨g, 0, none⟩, cap, by rw [List.length_map], by rw [List.length_map]; exact hc, fun _ => ⟨g, 0, rfl, fun i x hx j v hv => ?_⟩⟩
  · obtain ⟨y, _, rfl⟩ := List.mem_map.1 hx
    exact y.2
  · rw [List.getElem?_map] at hx
    cases hd : d[i]? with
    | none => rw [hd] at hx; cases hx
    | some y =>
      rw [hd] at hx
      have hx : y.1 = x := by injection hx
      subst hx
      have hi := (List.getElem?_eq_some_iff.1 hd).1
      have hj : j < 32 := by have := (List.getElem?_eq_some_iff.1 hv).1; rwa [List.length_map, y.2] at this
      have h1 := (HoldsK.cell h (i := i) (c := j) (by simpa using hi) hj).1
      rw [h1]
      have e : d.toArray[i]! = y := by rw [getElem!_pos d.toArray i (by simpa using hi)]; simp only [List.getElem_toArray]; exact (List.getElem?_eq_some_iff.1 hd).2
      rw [e]
      have h2 : (encH y)[j]? = some v := hv
      rw [getElem!_pos (encH y) j (by rw [encH_len]; exact hj)]
      rw [List.getElem?_eq_getElem (by rw [encH_len]; exact hj)] at h2
      exact h2
theorem grown_putK {w : World} {g n : Nat} (d : Array OH) : w.grownBy (putRowK encH 32 (Sort.ahead w n) g 0 d) (some g) := by
  refine ⟨rfl, rfl, rfl, ?_, fun k hk hne => ?_⟩
  · simp [putRowK, putRow, mapBlock, Go.Sort.ahead]
  · have : g ≠ k := fun e => hne (by rw [e])
    simp [putRowK, putRow, mapBlock, Go.Sort.ahead, Array.getElem?_modify, this]
theorem isAgg_hash32 (w : World) : (isAgg 30).run Tryd.prog w = .ok true w := by kernel_rfl
/-- Reverse: the digests the other way round; the row's block turns, no more. -/
theorem hsrev_any (base : Nat) (v : Value) (l : List (List UInt8)) (w : World) (h : HsOwn base w v l) (hn : l.length ≤ 1048576) :
    Calls Tryd.prog 27 #[v] w fun e w' => e = .returned (.tuple #[]) ∧ HsAt w' v l.reverse ∧ (w = w' ∨ ∃ g, v.ownBlock = some g ∧ w.grownBy w' (some g)) := by
  obtain ⟨d, rfl⟩ := lift_hs l h.2
  rw [List.length_map] at hn
  have h1 := h.1
  rw [List.length_map, hsL_enc] at h1
  have hcase := h1.2
  rcases hcase with ⟨rfl, h0⟩ | ⟨g, cap, cur, rfl, hb, hg, hcap, _⟩
  · have hd : d = [] := List.eq_nil_of_length_eq_zero h0
    subst hd
    have hc := AnyQ.slices_Reverse_empty rev_lay none 0 w
    change Calls Tryd.prog 27 _ _ _ at hc
    refine hc.mono ?_
    rintro e w' ⟨rfl, rfl⟩
    exact ⟨rfl, HsAt.nil _ _ _, .inl rfl⟩
  · have hH := holds_hs h1
    have hc := AnyQ.slices_Reverse rev_lay 32 isAgg_hash32 size_hash encH encH_len encH_one g 0 cap d.toArray w hH (by simp; omega)
    change Calls Tryd.prog 27 _ _ _ at hc
    rw [List.size_toArray] at hc
    refine hc.mono ?_
    rintro e w' ⟨rfl, n, rfl⟩
    refine ⟨rfl, ?_, .inr ⟨g, rfl, grown_putK _⟩⟩
    have h2 : HoldsK encH 32 (putRowK encH 32 (Sort.ahead w n) g 0 d.toArray.reverse) g 0 d.reverse.toArray := by
      have := holdsK_putRowK encH 32 (Sort.ahead w n) g 0 d.toArray d.toArray.reverse (holdsK_ahead _ _ _ _ _ _ _ hH) (by simp)
      simpa using this
    have h3 := hsAt_holds (cap := cap) h2 (by rw [List.length_reverse]; exact hcap)
    rw [List.length_reverse, List.map_reverse] at h3
    exact h3
end Go.Proofs.YtnhmjlljnckieaaDoor.Sha

/-
  The program's tree: what two blocks have in common, the way from one to the other. Nothing that was there turns. Conditions: the tree lies where it should, nodes as the model has them, digests of 32 bytes.
-/
namespace Go.Proofs.YtnhmjlljnckieaaDoor.Sha
open Go Go.RowKit
def BothP (M : List CNd) (x y : Int) (va vb : Value) (bo : Bool) : Prop :=
  (bo = false ∧ (x < 0 ∨ y < 0)) ∨ (bo = true ∧ ∃ (k : Nat) (c : CNd) (k2 : Nat) (c2 : CNd), x = (k : Int) ∧ M[k]? = some c ∧ y = (k2 : Int) ∧ M[k2]? = some c2 ∧ va = .pointer (some ⟨c.ad, 0, none⟩) ∧ vb = .pointer (some ⟨c2.ad, 0, none⟩))
def BoPost (M : List CNd) (x y : Int) (e : Ending) : Prop := ∃ va vb bo, e = .returned (.tuple #[va, vb, .bool bo]) ∧ BothP M x y va vb bo
set_option maxHeartbeats 2000000 in
set_option maxRecDepth 100000 in
theorem ctboth_any (w : World) (base b mb : Nat) (M : List CNd) (ia ib : List UInt8) (h : CtAt w base b mb M) (ht : TrL (ndM M)) (hia : ia.length = 32) (hib : ib.length = 32) :
    Calls Tryd.prog 24 #[(.pointer (some ⟨b, 0, none⟩)), .agg (ia.map bV).toArray, .agg (ib.map bV).toArray] w fun e w' => BoPost M (findT (ndM M) ia) (findT (ndM M) ib) e ∧ Below w.heap.size w w' := by
  have HT := Lib.hid h
  have TR := Lib.hid ht
  have LS := Lib.hid ht.start.1
  obtain ⟨oa, qa, hlka, hcaa⟩ := ct_look h ht ia hia
  obtain ⟨ob, qb, hlkb, hcab⟩ := ct_look h ht ib hib
  have LKA := Lib.hid hlka
  have LKB := Lib.hid hlkb
  have CAA := Lib.hid hcaa
  have CAB := Lib.hid hcab
  have SA : Hid ((ia.map bV).length = 32) := by show _ = _; rw [List.length_map]; exact hia
  have SB : Hid ((ib.map bV).length = 32) := by show _ = _; rw [List.length_map]; exact hib
  obtain ⟨ca, hca⟩ : ∃ ca, ca = ia.map bV := ⟨_, rfl⟩
  obtain ⟨cb, hcb⟩ : ∃ cb, cb = ib.map bV := ⟨_, rfl⟩
  rw [← hca] at LKA SA ⊢
  rw [← hcb] at LKB SB ⊢
  clear h ht hlka hlkb hcaa hcab hia hib hca hcb
  go_enter Tryd.func24, Tryd.ntmps24
  go_upto_region 1 with fail
  have f0 := row_below (heap_alloc_new w (.cells ca.toArray 30 (0, 0))) ((Below.refl _ _).alloc (Nat.le_refl _) (.cells cb.toArray 30 (0, 0)))
  have f1 := heap_alloc_new (w.alloc (.cells ca.toArray 30 (0, 0))) (.cells cb.toArray 30 (0, 0))
  have bb : Below w.heap.size w ((w.alloc (.cells ca.toArray 30 (0, 0))).alloc (.cells cb.toArray 30 (0, 0))) := (((Below.refl w.heap.size w).alloc (by first | exact Nat.le_refl _ | (simp only [World.size_alloc]; omega)) (.cells ca.toArray 30 (0, 0))).alloc (by first | exact Nat.le_refl _ | (simp only [World.size_alloc]; omega)) (.cells cb.toArray 30 (0, 0)))
  simp only [World.size_alloc] at f1
  generalize hq : World.alloc _ _ = w1
  have eq : (w.alloc (.cells ca.toArray 30 (0, 0))).alloc (.cells cb.toArray 30 (0, 0)) = w1 := hq
  rw [eq] at f0 f1 bb
  obtain ⟨g5, hg5⟩ : ∃ g5, g5 = w.heap.size + 1 := ⟨_, rfl⟩
  have Gg5 : Hid (w.heap.size ≤ g5) := by show _ ≤ _; omega
  rw [← hg5] at f1 ⊢
  obtain ⟨g4, hg4⟩ : ∃ g4, g4 = w.heap.size := ⟨_, rfl⟩
  have Gg4 : Hid (w.heap.size ≤ g4) := by show _ ≤ _; omega
  rw [← hg4] at f0 ⊢
  have F4 := Lib.hid f0
  have F5 := Lib.hid f1
  have B1 := Lib.hid bb
  clear f0 f1 bb hq eq hg4 hg5
  refine wp_region_held_drew (S := (fun w' => Below w1.heap.size w1 w')) (by kernel_rfl) (Below.drew (Below.refl _ _)) (fun hHeld => ?_)
  generalize hwd : w1.drew = wd at  hHeld ⊢
  clear hwd
  refine held_take (i := 0) (v := (.pointer (some ⟨b, 0, none⟩))) rfl (by kernel_rfl) (by kernel_rfl) (by kernel_rfl) (fun _ _ _ h => h) (Or.inl ⟨by rfl, fun w' _ => by kernel_rfl⟩) hHeld ?_
  go_frame
  refine held_take (i := 1) (v := (.pointer (some ⟨b, 0, none⟩))) rfl (by kernel_rfl) (by kernel_rfl) (by kernel_rfl) (fun _ _ _ h => h) (Or.inl ⟨by rfl, fun w' _ => by kernel_rfl⟩) hHeld ?_
  go_frame
  refine held_take (i := 2) (v := (.pointer (some ⟨b, 32, none⟩))) rfl (by kernel_rfl) (by kernel_rfl) (by kernel_rfl) (fun _ _ _ h => h) (Or.inl ⟨by rfl, fun w' _ => by kernel_rfl⟩) hHeld ?_
  go_frame
  refine held_take (i := 3) (v := (.map (some mb))) rfl (by kernel_rfl) (by kernel_rfl) (by kernel_rfl) (fun _ _ _ h => h) (yieldsIf_load_one (by rfl) 65 (.tmp 16) rfl b (32) rfl _ _ (fun w' hw' => (HT.out.below (B1.out.trans (hw'.mono B1.out.size))).mcell LS.out) Tryd.underlying65 rfl) hHeld ?_
  go_frame
  refine held_take (i := 4) (v := (.agg ca.toArray)) rfl (by kernel_rfl) (by kernel_rfl) (by kernel_rfl) (fun _ _ _ h => h) (yieldsIf_load_row (by rfl) 30 (.tmp 4) rfl g4 rfl 30 ca.toArray (0, 0) _ (fun w' hw' => row_below F4.out hw') Tryd.underlying30 rfl (by show _ = some ca.length; rw [SA.out]; kernel_rfl)) hHeld ?_
  go_frame
  refine held_take (i := 5) (v := (.tuple #[oa, .bool qa])) rfl (by kernel_rfl) (by kernel_rfl) (by kernel_rfl) (fun _ _ _ h => h) (yieldsIf_lookup (by rfl) 65 (.tmp 17) (.tmp 18) true rfl _ _ _ rfl rfl (fun w' hw' => LKA.out w' (B1.out.trans (hw'.mono B1.out.size)))) hHeld ?_
  go_frame
  refine held_take (i := 6) (v := (.tuple #[oa, .bool qa])) rfl (by kernel_rfl) (by kernel_rfl) (by kernel_rfl) (fun _ _ _ h => h) (Or.inl ⟨by rfl, fun w' _ => by kernel_rfl⟩) hHeld ?_
  go_frame
  refine held_take (i := 7) (v := oa) rfl (by kernel_rfl) (by kernel_rfl) (by kernel_rfl) (fun _ _ _ h => h) (Or.inl ⟨by rfl, fun w' _ => by kernel_rfl⟩) hHeld ?_
  go_frame
  refine held_take (i := 8) (v := (.bool qa)) rfl (by kernel_rfl) (by kernel_rfl) (by kernel_rfl) (fun _ _ _ h => h) (Or.inl ⟨by rfl, fun w' _ => by kernel_rfl⟩) hHeld ?_
  go_frame
  refine held_take (i := 9) (v := oa) rfl (by kernel_rfl) (by kernel_rfl) (by kernel_rfl) (fun _ _ _ h => h) (Or.inl ⟨by rfl, fun w' _ => by kernel_rfl⟩) hHeld ?_
  go_frame
  refine held_take (i := 10) (v := (.bool qa)) rfl (by kernel_rfl) (by kernel_rfl) (by kernel_rfl) (fun _ _ _ h => h) (Or.inl ⟨by rfl, fun w' _ => by kernel_rfl⟩) hHeld ?_
  go_frame
  refine wpAnyH_done (by kernel_rfl) ?_ _
  obtain ⟨v8, hv8⟩ : ∃ v8, v8 = wd := ⟨_, rfl⟩
  rw [← hv8] at  hHeld ⊢
  clear hv8
  have B2 := Lib.hid (B1.out.trans (hHeld.mono B1.out.size))
  have F5 := Lib.hid (row_below F5.out hHeld)
  clear hHeld LKA F4 B1
  go_upto_region 2 with fail
  refine wp_region_held_drew (S := (fun w' => Below v8.heap.size v8 w')) (by kernel_rfl) (Below.drew (Below.refl _ _)) (fun hHeld => ?_)
  generalize hwd : v8.drew = wd at  hHeld ⊢
  clear hwd
  refine held_take (i := 0) (v := (.pointer (some ⟨b, 0, none⟩))) rfl (by kernel_rfl) (by kernel_rfl) (by kernel_rfl) (fun _ _ _ h => h) (Or.inl ⟨by rfl, fun w' _ => by kernel_rfl⟩) hHeld ?_
  go_frame
  refine held_take (i := 1) (v := (.pointer (some ⟨b, 0, none⟩))) rfl (by kernel_rfl) (by kernel_rfl) (by kernel_rfl) (fun _ _ _ h => h) (Or.inl ⟨by rfl, fun w' _ => by kernel_rfl⟩) hHeld ?_
  go_frame
  refine held_take (i := 2) (v := (.pointer (some ⟨b, 32, none⟩))) rfl (by kernel_rfl) (by kernel_rfl) (by kernel_rfl) (fun _ _ _ h => h) (Or.inl ⟨by rfl, fun w' _ => by kernel_rfl⟩) hHeld ?_
  go_frame
  refine held_take (i := 3) (v := (.map (some mb))) rfl (by kernel_rfl) (by kernel_rfl) (by kernel_rfl) (fun _ _ _ h => h) (yieldsIf_load_one (by rfl) 65 (.tmp 25) rfl b (32) rfl _ _ (fun w' hw' => (HT.out.below (B2.out.trans (hw'.mono B2.out.size))).mcell LS.out) Tryd.underlying65 rfl) hHeld ?_
  go_frame
  refine held_take (i := 4) (v := (.agg cb.toArray)) rfl (by kernel_rfl) (by kernel_rfl) (by kernel_rfl) (fun _ _ _ h => h) (yieldsIf_load_row (by rfl) 30 (.tmp 5) rfl g5 rfl 30 cb.toArray (0, 0) _ (fun w' hw' => row_below F5.out hw') Tryd.underlying30 rfl (by show _ = some cb.length; rw [SB.out]; kernel_rfl)) hHeld ?_
  go_frame
  refine held_take (i := 5) (v := (.tuple #[ob, .bool qb])) rfl (by kernel_rfl) (by kernel_rfl) (by kernel_rfl) (fun _ _ _ h => h) (yieldsIf_lookup (by rfl) 65 (.tmp 26) (.tmp 27) true rfl _ _ _ rfl rfl (fun w' hw' => LKB.out w' (B2.out.trans (hw'.mono B2.out.size)))) hHeld ?_
  go_frame
  refine held_take (i := 6) (v := (.tuple #[ob, .bool qb])) rfl (by kernel_rfl) (by kernel_rfl) (by kernel_rfl) (fun _ _ _ h => h) (Or.inl ⟨by rfl, fun w' _ => by kernel_rfl⟩) hHeld ?_
  go_frame
  refine held_take (i := 7) (v := ob) rfl (by kernel_rfl) (by kernel_rfl) (by kernel_rfl) (fun _ _ _ h => h) (Or.inl ⟨by rfl, fun w' _ => by kernel_rfl⟩) hHeld ?_
  go_frame
  refine held_take (i := 8) (v := (.bool qb)) rfl (by kernel_rfl) (by kernel_rfl) (by kernel_rfl) (fun _ _ _ h => h) (Or.inl ⟨by rfl, fun w' _ => by kernel_rfl⟩) hHeld ?_
  go_frame
  refine held_take (i := 9) (v := ob) rfl (by kernel_rfl) (by kernel_rfl) (by kernel_rfl) (fun _ _ _ h => h) (Or.inl ⟨by rfl, fun w' _ => by kernel_rfl⟩) hHeld ?_
  go_frame
  refine held_take (i := 10) (v := (.bool qb)) rfl (by kernel_rfl) (by kernel_rfl) (by kernel_rfl) (fun _ _ _ h => h) (Or.inl ⟨by rfl, fun w' _ => by kernel_rfl⟩) hHeld ?_
  go_frame
  refine wpAnyH_done (by kernel_rfl) ?_ _
  obtain ⟨v9, hv9⟩ : ∃ v9, v9 = wd := ⟨_, rfl⟩
  rw [← hv9] at  hHeld ⊢
  clear hv9
  have B3 := Lib.hid (B2.out.trans (hHeld.mono B2.out.size))
  clear hHeld LKB F5 B2
  rcases CAA.out with ⟨h1, rfl, rfl⟩ | ⟨k, c, h1, h2, h3, rfl, rfl⟩
  · rcases CAB.out with ⟨h4, rfl, rfl⟩ | ⟨k2, c2, h4, h5, h6, rfl, rfl⟩
    · have N : Hid (findT (ndM M) ia < 0 ∨ findT (ndM M) ib < 0) := .inl (by omega)
      clear h1 h4
      go_wp2_with fail
      go_ret3
      exact ⟨⟨_, _, _, rfl, .inl ⟨rfl, N.out⟩⟩, B3.out⟩
    · have N : Hid (findT (ndM M) ia < 0 ∨ findT (ndM M) ib < 0) := .inl (by omega)
      clear h5 h6
      clear h1 h4
      go_wp2_with fail
      go_ret3
      exact ⟨⟨_, _, _, rfl, .inl ⟨rfl, N.out⟩⟩, B3.out⟩
  · rcases CAB.out with ⟨h4, rfl, rfl⟩ | ⟨k2, c2, h4, h5, h6, rfl, rfl⟩
    · have N : Hid (findT (ndM M) ia < 0 ∨ findT (ndM M) ib < 0) := .inr (by omega)
      clear h2 h3
      clear h1 h4
      go_wp2_with fail
      go_ret3
      exact ⟨⟨_, _, _, rfl, .inl ⟨rfl, N.out⟩⟩, B3.out⟩
    · have N1 := Lib.hid h1
      have N2 := Lib.hid h2
      have N4 := Lib.hid h4
      have N5 := Lib.hid h5
      clear h1 h2 h3 h4 h5 h6
      go_wp2_with fail
      go_ret3
      exact ⟨⟨_, _, _, rfl, .inr ⟨rfl, k, c, k2, c2, N1.out, N2.out, N4.out, N5.out, rfl, rfl⟩⟩, B3.out⟩
theorem com_meet {L : List TNd} {x y j t : Nat} (h1 : (chainT L (x : Int))[t]? = some (j : Int)) (hc : comT L (x : Int) (y : Int) = t + 1) : meetT L (x : Int) (y : Int) = (L.getD j ndZ).id := by
  have hl := (List.getElem?_eq_some_iff.1 h1).1
  have hu : (upL L (x : Int)).length = (chainT L (x : Int)).length := by unfold chainT; rw [List.length_reverse]
  have e := up_chain (L := L) (k := (x : Int)) (p := (upL L (x : Int)).length - (t + 1)) (by omega)
  rw [show (chainT L (x : Int)).length - 1 - ((upL L (x : Int)).length - (t + 1)) = t by omega, h1] at e
  have e2 : (upL L (x : Int)).getD ((upL L (x : Int)).length - (t + 1)) 0 = (j : Int) := by rw [List.getD_eq_getElem?_getD, e]; rfl
  unfold meetT
  rw [hc, e2]
  rfl
theorem com_back {L : List TNd} {x y t : Nat} (hc : comT L (x : Int) (y : Int) = t + 1) : backT L (x : Int) (y : Int) = idsT L ((upL L (x : Int)).take ((chainT L (x : Int)).length - 1 - t)) := by
  have hu : (upL L (x : Int)).length = (chainT L (x : Int)).length := by unfold chainT; rw [List.length_reverse]
  unfold backT
  rw [hc, hu, show (chainT L (x : Int)).length - (t + 1) = (chainT L (x : Int)).length - 1 - t by omega]
theorem com_on {L : List TNd} {x y t : Nat} (hc : comT L (x : Int) (y : Int) = t + 1) : onT L (x : Int) (y : Int) = (idsT L ((upL L (y : Int)).take ((chainT L (y : Int)).length - 1 - t))).reverse := by
  have hu : (upL L (y : Int)).length = (chainT L (y : Int)).length := by unfold chainT; rw [List.length_reverse]
  unfold onT idsT
  rw [hc, hu, show (chainT L (y : Int)).length - (t + 1) = (chainT L (y : Int)).length - 1 - t by omega, List.map_reverse]
theorem chain_len {L : List TNd} (h : TrL L) {k : Nat} {x : TNd} (hx : L[k]? = some x) : (chainT L (k : Int)).length ≤ 4097 := by
  have h1 := chain_length h hx
  have h2 := h.ok _ (List.mem_of_getElem? hx)
  have := h2.2.2.2.2.2.1
  omega
/-- What Common leaves. -/
def CoPost (L : List TNd) (x y : Int) (e : Ending) : Prop :=
  ((x < 0 ∨ y < 0) ∧ e = .returned (.tuple #[.agg (List.replicate 32 (bV 0)).toArray, .bool false])) ∨ (0 ≤ x ∧ 0 ≤ y ∧ e = .returned (.tuple #[.agg ((meetT L x y).map bV).toArray, .bool true]))
set_option maxHeartbeats 2000000 in
set_option maxRecDepth 100000 in
theorem ctcommon_any (w : World) (base b mb : Nat) (M : List CNd) (ia ib : List UInt8) (h : CtAt w base b mb M) (ht : TrL (ndM M)) (hia : ia.length = 32) (hib : ib.length = 32) :
    Calls Tryd.prog 12 #[(.pointer (some ⟨b, 0, none⟩)), .agg (ia.map bV).toArray, .agg (ib.map bV).toArray] w fun e w' => CoPost (ndM M) (findT (ndM M) ia) (findT (ndM M) ib) e ∧ Below w.heap.size w w' := by
  have HT := Lib.hid h
  have TR := Lib.hid ht
  have BO : Hid (∀ W, Below w.heap.size w W → Calls Tryd.prog 24 #[(.pointer (some ⟨b, 0, none⟩)), .agg (ia.map bV).toArray, .agg (ib.map bV).toArray] W fun e w' => BoPost M (findT (ndM M) ia) (findT (ndM M) ib) e ∧ Below W.heap.size W w') := fun W hW => ctboth_any W base b mb M ia ib (h.below hW) ht hia hib
  have SA : Hid ((ia.map bV).toArray.size = 32) := by show _ = _; rw [List.size_toArray, List.length_map]; exact hia
  have SB : Hid ((ib.map bV).toArray.size = 32) := by show _ = _; rw [List.size_toArray, List.length_map]; exact hib
  obtain ⟨x, hx⟩ : ∃ x, x = findT (ndM M) ia := ⟨_, rfl⟩
  obtain ⟨y, hy⟩ : ∃ y, y = findT (ndM M) ib := ⟨_, rfl⟩
  rw [← hx, ← hy] at BO ⊢
  obtain ⟨ca, hca⟩ : ∃ ca, ca = ia.map bV := ⟨_, rfl⟩
  obtain ⟨cb, hcb⟩ : ∃ cb, cb = ib.map bV := ⟨_, rfl⟩
  rw [← hca] at BO SA ⊢
  rw [← hcb] at BO SB ⊢
  clear h ht hia hib hca hcb hx hy
  go_enter Tryd.func12, Tryd.ntmps12
  go_upto_region 1 with fail
  have f0 := row_below (row_below (heap_alloc_new w (.cells ca.toArray 30 (0, 0))) ((Below.refl _ _).alloc (Nat.le_refl _) (.cells cb.toArray 30 (0, 0)))) ((Below.refl _ _).alloc (Nat.le_refl _) (.cells (List.replicate 32 (bV 0)).toArray 30 (0, 0)))
  have f1 := row_below (heap_alloc_new (w.alloc (.cells ca.toArray 30 (0, 0))) (.cells cb.toArray 30 (0, 0))) ((Below.refl _ _).alloc (Nat.le_refl _) (.cells (List.replicate 32 (bV 0)).toArray 30 (0, 0)))
  have f2 := heap_alloc_new ((w.alloc (.cells ca.toArray 30 (0, 0))).alloc (.cells cb.toArray 30 (0, 0))) (.cells (List.replicate 32 (bV 0)).toArray 30 (0, 0))
  have bb : Below w.heap.size w (((w.alloc (.cells ca.toArray 30 (0, 0))).alloc (.cells cb.toArray 30 (0, 0))).alloc (.cells (List.replicate 32 (bV 0)).toArray 30 (0, 0))) := ((((Below.refl w.heap.size w).alloc (by first | exact Nat.le_refl _ | (simp only [World.size_alloc]; omega)) (.cells ca.toArray 30 (0, 0))).alloc (by first | exact Nat.le_refl _ | (simp only [World.size_alloc]; omega)) (.cells cb.toArray 30 (0, 0))).alloc (by first | exact Nat.le_refl _ | (simp only [World.size_alloc]; omega)) (.cells (List.replicate 32 (bV 0)).toArray 30 (0, 0)))
  simp only [World.size_alloc] at f1
  simp only [World.size_alloc] at f2
  generalize hq : World.alloc _ _ = w1
  have eq : ((w.alloc (.cells ca.toArray 30 (0, 0))).alloc (.cells cb.toArray 30 (0, 0))).alloc (.cells (List.replicate 32 (bV 0)).toArray 30 (0, 0)) = w1 := hq
  rw [eq] at f0 f1 f2 bb
  obtain ⟨g6, hg6⟩ : ∃ g6, g6 = w.heap.size + 1 + 1 := ⟨_, rfl⟩
  have Gg6 : Hid (w.heap.size ≤ g6) := by show _ ≤ _; omega
  rw [← hg6] at f2 ⊢
  obtain ⟨g5, hg5⟩ : ∃ g5, g5 = w.heap.size + 1 := ⟨_, rfl⟩
  have Gg5 : Hid (w.heap.size ≤ g5) := by show _ ≤ _; omega
  rw [← hg5] at f1 ⊢
  obtain ⟨g4, hg4⟩ : ∃ g4, g4 = w.heap.size := ⟨_, rfl⟩
  have Gg4 : Hid (w.heap.size ≤ g4) := by show _ ≤ _; omega
  rw [← hg4] at f0 ⊢
  have F4 := Lib.hid f0
  have F5 := Lib.hid f1
  have F6 := Lib.hid f2
  have B1 := Lib.hid bb
  clear f0 f1 f2 bb hq eq hg4 hg5 hg6
  go_wp2_with ((with_reducible show wpList _ _ _ _ _ _); first | (refine wpList_load_row rfl 30 (.tmp 4) rfl g4 rfl 30 ca.toArray (0, 0) _ F4.out Tryd.underlying30 rfl (by rw [SA.out]; kernel_rfl) ?_; go_frame) | (refine wpList_load_row rfl 30 (.tmp 5) rfl g5 rfl 30 cb.toArray (0, 0) _ F5.out Tryd.underlying30 rfl (by rw [SB.out]; kernel_rfl) ?_; go_frame))
  refine (BO.out w1 B1.out).mono ?_
  rintro e w2 ⟨⟨va, vb, bo, rfl, hbo⟩, bb⟩
  have F6 := Lib.hid (row_below F6.out bb)
  have B2 := Lib.hid (B1.out.trans (bb.mono B1.out.size))
  clear bb BO F4 F5 B1
  rcases hbo with ⟨rfl, hn⟩ | ⟨rfl, k, c, k2, c2, rfl, h2, rfl, h5, rfl, rfl⟩
  · have N := Lib.hid hn
    clear hn
    go_wp2_with ((with_reducible show wpList _ _ _ _ _ _); first | (refine wpList_buildTo rfl 30 _ rfl _ rfl (List.replicate 32 (bV 0)).toArray (by kernel_rfl) ?_; go_frame) | (refine wpList_store_row rfl 30 (.tmp 6) (.tmp 21) rfl g6 (List.replicate 32 (bV 0)).toArray rfl rfl 30 _ F6.out (by kernel_rfl) rfl (by kernel_rfl) ?_; go_frame))
    refine bodyPost_ret (results_row_tmp rfl _ _ g6 30 (List.replicate 32 (bV 0)).toArray (0, 0) _ rfl (setRow_heap _ _ _ _ _ _ F6.out) Tryd.underlying30 rfl (by kernel_rfl)) rfl ?_
    exact ⟨.inl ⟨N.out, rfl⟩, below_setRow B2.out (by have := Gg6.out; omega) _⟩
  · have MT := Lib.hid (ctmeet_any w base b mb M k k2 c c2 HT.out TR.out h2 h5 w2 B2.out)
    clear h2 h5
    go_wp2_with fail
    refine MT.out.mono ?_
    rintro e w3 ⟨⟨j, f, t, hf, rfl, h1, _, hc⟩, bb⟩
    have F6 := Lib.hid (row_below F6.out bb)
    have B3 := Lib.hid (B2.out.trans (bb.mono B2.out.size))
    have ME : Hid (meetT (ndM M) (k : Int) (k2 : Int) = f.nd.id) := by show _ = _; rw [com_meet h1 hc, getD_at (ndM_at hf)]
    have ok := TR.out.ok _ (List.mem_of_getElem? (ndM_at hf))
    have RI := Lib.hid (HT.out.idr hf B3.out)
    have LI : Hid ((f.nd.id.map bV).length = 32) := by show _ = _; rw [List.length_map]; exact ok.1
    have LI' : Hid ((f.nd.id.map bV).toArray.size = 32) := by show _ = _; rw [List.size_toArray]; exact LI.out
    have OI : Hid ((f.nd.id.map bV).toArray.all (·.oneCell') = true) := bV_one _
    obtain ⟨cd, hcd⟩ : ∃ cd, cd = f.nd.id.map bV := ⟨_, rfl⟩
    have CDE := Lib.hid hcd
    rw [← hcd] at RI LI LI' OI
    clear bb hf h1 hc ok hcd MT B2
    go_wp2_with ((with_reducible show wpList _ _ _ _ _ _); first | (refine wpList_load_mid rfl 30 (.tmp 26) rfl f.ad 0 rfl cd _ RI.out Tryd.underlying30 rfl (by rw [LI.out]; kernel_rfl) ?_; go_frame) | (refine wpList_store_row rfl 30 (.tmp 6) (.tmp 27) rfl g6 cd.toArray rfl rfl 30 _ F6.out (by rw [LI'.out]; kernel_rfl) (by rw [LI'.out]; rfl) OI.out ?_; go_frame))
    refine bodyPost_ret (results_row_tmp rfl _ _ g6 30 cd.toArray (0, 0) _ rfl (setRow_heap _ _ _ _ _ _ F6.out) Tryd.underlying30 rfl (by rw [LI'.out]; kernel_rfl)) rfl ?_
    exact ⟨.inr ⟨by omega, by omega, by rw [ME.out, CDE.out]; rfl⟩, below_setRow B3.out (by have := Gg6.out; omega) _⟩
/-- What Path leaves. -/
def CpPost (L : List TNd) (x y : Int) (w : World) (e : Ending) (w' : World) : Prop :=
  Below w.heap.size w w' ∧ (((x < 0 ∨ y < 0) ∧ e = .returned (.tuple #[.slice none 0 0, .slice none 0 0, .bool false])) ∨
    0 ≤ x ∧ 0 ≤ y ∧ ∃ v1 v2, e = .returned (.tuple #[v1, v2, .bool true]) ∧ HsAt w' v1 (backT L x y) ∧ HsAt w' v2 (onT L x y))
set_option maxHeartbeats 2000000 in
set_option maxRecDepth 100000 in
theorem ctpath_any (w : World) (base b mb : Nat) (M : List CNd) (ia ib : List UInt8) (h : CtAt w base b mb M) (ht : TrL (ndM M)) (hia : ia.length = 32) (hib : ib.length = 32) :
    Calls Tryd.prog 11 #[(.pointer (some ⟨b, 0, none⟩)), .agg (ia.map bV).toArray, .agg (ib.map bV).toArray] w (CpPost (ndM M) (findT (ndM M) ia) (findT (ndM M) ib) w) := by
  have HT := Lib.hid h
  have TR := Lib.hid ht
  have BO : Hid (∀ W, Below w.heap.size w W → Calls Tryd.prog 24 #[(.pointer (some ⟨b, 0, none⟩)), .agg (ia.map bV).toArray, .agg (ib.map bV).toArray] W fun e w' => BoPost M (findT (ndM M) ia) (findT (ndM M) ib) e ∧ Below W.heap.size W w') := fun W hW => ctboth_any W base b mb M ia ib (h.below hW) ht hia hib
  have SA : Hid ((ia.map bV).toArray.size = 32) := by show _ = _; rw [List.size_toArray, List.length_map]; exact hia
  have SB : Hid ((ib.map bV).toArray.size = 32) := by show _ = _; rw [List.size_toArray, List.length_map]; exact hib
  obtain ⟨x, hx⟩ : ∃ x, x = findT (ndM M) ia := ⟨_, rfl⟩
  obtain ⟨y, hy⟩ : ∃ y, y = findT (ndM M) ib := ⟨_, rfl⟩
  rw [← hx, ← hy] at BO ⊢
  obtain ⟨ca, hca⟩ : ∃ ca, ca = ia.map bV := ⟨_, rfl⟩
  obtain ⟨cb, hcb⟩ : ∃ cb, cb = ib.map bV := ⟨_, rfl⟩
  rw [← hca] at BO SA ⊢
  rw [← hcb] at BO SB ⊢
  clear h ht hia hib hca hcb hx hy
  go_enter Tryd.func11, Tryd.ntmps11
  go_upto_region 1 with fail
  have f0 := row_below (heap_alloc_new w (.cells ca.toArray 30 (0, 0))) ((Below.refl _ _).alloc (Nat.le_refl _) (.cells cb.toArray 30 (0, 0)))
  have f1 := heap_alloc_new (w.alloc (.cells ca.toArray 30 (0, 0))) (.cells cb.toArray 30 (0, 0))
  have bb : Below w.heap.size w ((w.alloc (.cells ca.toArray 30 (0, 0))).alloc (.cells cb.toArray 30 (0, 0))) := (((Below.refl w.heap.size w).alloc (by first | exact Nat.le_refl _ | (simp only [World.size_alloc]; omega)) (.cells ca.toArray 30 (0, 0))).alloc (by first | exact Nat.le_refl _ | (simp only [World.size_alloc]; omega)) (.cells cb.toArray 30 (0, 0)))
  simp only [World.size_alloc] at f1
  generalize hq : World.alloc _ _ = w1
  have eq : (w.alloc (.cells ca.toArray 30 (0, 0))).alloc (.cells cb.toArray 30 (0, 0)) = w1 := hq
  rw [eq] at f0 f1 bb
  obtain ⟨g5, hg5⟩ : ∃ g5, g5 = w.heap.size + 1 := ⟨_, rfl⟩
  have Gg5 : Hid (w.heap.size ≤ g5) := by show _ ≤ _; omega
  rw [← hg5] at f1 ⊢
  obtain ⟨g4, hg4⟩ : ∃ g4, g4 = w.heap.size := ⟨_, rfl⟩
  have Gg4 : Hid (w.heap.size ≤ g4) := by show _ ≤ _; omega
  rw [← hg4] at f0 ⊢
  have F4 := Lib.hid f0
  have F5 := Lib.hid f1
  have B1 := Lib.hid bb
  clear f0 f1 bb hq eq hg4 hg5
  go_wp2_with ((with_reducible show wpList _ _ _ _ _ _); first | (refine wpList_load_row rfl 30 (.tmp 4) rfl g4 rfl 30 ca.toArray (0, 0) _ F4.out Tryd.underlying30 rfl (by rw [SA.out]; kernel_rfl) ?_; go_frame) | (refine wpList_load_row rfl 30 (.tmp 5) rfl g5 rfl 30 cb.toArray (0, 0) _ F5.out Tryd.underlying30 rfl (by rw [SB.out]; kernel_rfl) ?_; go_frame))
  refine (BO.out w1 B1.out).mono ?_
  rintro e w2 ⟨⟨va, vb, bo, rfl, hbo⟩, bb⟩
  have B2 := Lib.hid (B1.out.trans (bb.mono B1.out.size))
  clear bb BO F4 F5 B1
  rcases hbo with ⟨rfl, hn⟩ | ⟨rfl, k, c, k2, c2, rfl, h2, rfl, h5, rfl, rfl⟩
  · have N := Lib.hid hn
    clear hn
    go_wp2_with fail
    go_ret3
    exact ⟨B2.out, .inl ⟨N.out, rfl⟩⟩
  · have MT := Lib.hid (ctmeet_any w base b mb M k k2 c c2 HT.out TR.out h2 h5 w2 B2.out)
    have KC := Lib.hid h2
    have KD := Lib.hid h5
    clear h2 h5
    go_wp2_with fail
    refine MT.out.mono ?_
    rintro e w3 ⟨⟨j, f, t, hf, rfl, h1, h2, hc⟩, bb⟩
    have B3 := Lib.hid (B2.out.trans (bb.mono B2.out.size))
    have BK : Hid (backT (ndM M) (k : Int) (k2 : Int) = idsT (ndM M) ((upL (ndM M) (k : Int)).take ((chainT (ndM M) (k : Int)).length - 1 - t))) := com_back hc
    have ON : Hid (onT (ndM M) (k : Int) (k2 : Int) = (idsT (ndM M) ((upL (ndM M) (k2 : Int)).take ((chainT (ndM M) (k2 : Int)).length - 1 - t))).reverse) := com_on hc
    have A1 := Lib.hid (ctabove_any w base b mb M k2 j t c2 f HT.out TR.out KD.out hf h2 w3 B3.out)
    have A2 : Hid (∀ W, Below w.heap.size w W → Calls Tryd.prog 26 #[.pointer (some ⟨c.ad, 0, none⟩), .pointer (some ⟨f.ad, 0, none⟩)] W fun e w' => ∃ v, e = .returned v ∧ HsOwn W.heap.size w' v (idsT (ndM M) ((upL (ndM M) (k : Int)).take ((chainT (ndM M) (k : Int)).length - 1 - t))) ∧ Below W.heap.size W w') := fun W hW => ctabove_any w base b mb M k j t c f HT.out TR.out KC.out hf h1 W hW
    have LN : Hid ((idsT (ndM M) ((upL (ndM M) (k2 : Int)).take ((chainT (ndM M) (k2 : Int)).length - 1 - t))).length ≤ 1048576) := by
      have := chain_len TR.out (ndM_at KD.out)
      show _ ≤ _
      unfold idsT
      rw [List.length_map, List.length_take]
      omega
    obtain ⟨l1, hl1⟩ : ∃ l1, l1 = idsT (ndM M) ((upL (ndM M) (k : Int)).take ((chainT (ndM M) (k : Int)).length - 1 - t)) := ⟨_, rfl⟩
    obtain ⟨l2, hl2⟩ : ∃ l2, l2 = idsT (ndM M) ((upL (ndM M) (k2 : Int)).take ((chainT (ndM M) (k2 : Int)).length - 1 - t)) := ⟨_, rfl⟩
    rw [← hl1] at BK A2
    rw [← hl2] at ON A1 LN
    clear bb hf h1 h2 hc MT B2 hl1 hl2
    go_wp2_with fail
    refine A1.out.mono ?_
    rintro e w4 ⟨ov, rfl, ho, bb⟩
    have HO := Lib.hid ho
    have B4 := Lib.hid (B3.out.trans (bb.mono B3.out.size))
    have OL := Lib.hid ho.1.lt
    have S3 := Lib.hid B3.out.size
    clear ho bb A1 B3
    go_wp2_with fail
    refine (hsrev_any _ ov l2 w4 HO.out LN.out).mono ?_
    rintro e w5 ⟨rfl, ha, hg⟩
    have HA := Lib.hid ha
    have B5 : Hid (Below w.heap.size w w5) := by
      rcases hg with rfl | ⟨g, hg1, hg2⟩
      · exact B4.out
      · exact B4.out.grown hg2 B4.out.size (fun q hq => by cases hq; exact Nat.le_trans S3.out (OL.out g hg1).1)
    clear ha hg HO B4 OL S3 LN
    go_wp2_with fail
    refine (A2.out w5 B5.out).mono ?_
    rintro e w6 ⟨bv, rfl, ho, bb⟩
    have HO := Lib.hid ho
    have HA := Lib.hid (HA.out.below bb)
    have B6 := Lib.hid (B5.out.trans (bb.mono B5.out.size))
    clear ho bb A2 B5
    go_wp2_with fail
    go_ret3
    exact ⟨B6.out, .inr ⟨by omega, by omega, _, _, rfl, by rw [BK.out]; exact HO.out.at, by rw [ON.out]; exact HA.out⟩⟩
end Go.Proofs.YtnhmjlljnckieaaDoor.Sha
