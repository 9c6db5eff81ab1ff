/-
  Texts of this proof joined into one file: CnOrderWalk, CnTwo. What each holds, and under which conditions, its own first sentence tells.
-/
import Derived.IntWalk
import Derived.Test.YtlmfchcafhidoaaDoorMg08
import Derived.Test.YtlmfchcafhidoaaDoorMg09
/-
  The statement on the order of a set's coins answers true. Nothing that was there turns. Conditions: the coins lie where the slice says; the errors are there.
-/
namespace Go.Proofs.YtlmfchcafhidoaaDoor.Sha
open Go Go.RowKit
def OrInv (l : List TSp) (n g4 : Nat) (w : World) (vn vs vi : Value) (wr : World) : Prop :=
  ∃ (k : Nat) (s : List TSp) (m : Option Nat) (t : Nat), k ≤ n ∧ s = addsC (l.take k) ∧ vi = .int .i64 (k : Int) ∧ vn = .int .i64 (s.length : Int) ∧ vs = .int .u64 (t : Int) ∧ t = worthC s % 18446744073709551616 ∧ SetAt wr g4 m s ∧ HiM w.heap.size m ∧ Below w.heap.size w wr
def OsInv (n : Nat) (w : World) (vi : Value) (wr : World) : Prop := ∃ k : Nat, 1 ≤ k ∧ (k ≤ n ∨ k = 1) ∧ vi = .int .i64 (k : Int) ∧ Below w.heap.size w wr
set_option maxHeartbeats 4000000 in
set_option maxRecDepth 100000 in
theorem coinorder_main (E : Nat → Addr) (l : List TSp) (v : Value) (w : World) (hE : Errs w E) (hl : RwAt 68 w v (l.map spL)) (ho : ∀ x ∈ l, SpOk x) (hmax : l.length ≤ 9223372036854775807) :
    Calls Tryd.prog 5 #[v] w fun e w' => e = .returned (.bool true) ∧ Below w.heap.size w w' := by
  obtain ⟨sp, cap, rfl⟩ := hl.shape
  rw [List.length_map] at hl ⊢
  obtain ⟨n, hn⟩ : ∃ n, n = l.length := ⟨_, rfl⟩
  rw [← hn] at hl hmax ⊢
  have N := Lib.hid hn
  have HE := Lib.hid hE
  have HL := Lib.hid hl
  have OK := Lib.hid ho
  clear hn hE hl ho
  go_enter Tryd.func5, Tryd.ntmps5
  go_wp2_with fail
  refine (cfirst_any E w HE.out).mono ?_
  rintro e w1 ⟨rfl, b1⟩
  have B1 := Lib.hid b1
  clear b1
  by_cases hbig : 40 < n
  · have hb' : (40 : Int) < (n : Int) := by omega
    go_wp2_with fail
    go_ret
    exact ⟨rfl, B1.out⟩
  · have hb' : ¬ (40 : Int) < (n : Int) := by omega
    go_upto_region 7 with fail
    have f4 := heap_alloc_new w1 (.cells #[.map none] 32 (0, 0))
    have b4 := (Below.refl w1.heap.size w1).alloc (Nat.le_refl _) (.cells #[.map none] 32 (0, 0))
    generalize hw2 : World.alloc _ _ = w2
    have e2 : w1.alloc (.cells #[.map none] 32 (0, 0)) = w2 := hw2
    rw [e2] at f4 b4
    obtain ⟨g4, hg4⟩ : ∃ g4, g4 = w1.heap.size := ⟨_, rfl⟩
    have GW : Hid (w.heap.size ≤ g4) := by show _ ≤ _; rw [hg4]; exact B1.out.size
    rw [← hg4] at f4 ⊢
    have S2 : Hid (SetAt w2 g4 none []) := ⟨f4, rfl⟩
    have B2 := Lib.hid (B1.out.trans (b4.mono B1.out.size))
    clear f4 b4 hw2 e2 hg4 hb'
    go_wp2_with fail
    go_loopw [5, 6, 7] (fun vn vs vi wr => OrInv l n g4 w vn vs vi wr) (fun _ _ vi _ => n - (intOf vi).toNat)
    case atStart => exact ⟨0, [], none, 0, by omega, rfl, rfl, rfl, rfl, rfl, S2.out, (fun q e => by cases e), B2.out⟩
    case round =>
      clear S2 B2
      obtain ⟨k, s, m, t, hkn, hs, rfl, rfl, rfl, ht, hst, hm, hb⟩ := hrel
      have HS := Lib.hid hs
      have TS := Lib.hid ht
      have ST := Lib.hid hst
      have MM := Lib.hid hm
      have BB := Lib.hid hb
      clear hs ht hst hm hb
      obtain ⟨q, hq⟩ : ∃ q, q = s.length := ⟨_, rfl⟩
      rw [← hq]
      have SL := Lib.hid hq
      have SB : Hid (q ≤ 40) := by
        show _ ≤ _
        rw [hq, HS.out]
        exact Nat.le_trans (addsC_length _) (by rw [List.length_take]; omega)
      have sb := SB.out
      have tb : 0 ≤ (t : Int) ∧ (t : Int) ≤ 18446744073709551615 := by have := TS.out; omega
      clear hq
      by_cases hlt : k < n
      · obtain ⟨b, o, rfl, hg⟩ := HL.out.get (by omega)
        have hkl : k < l.length := by rw [← N.out]; exact hlt
        obtain ⟨x, hx⟩ : ∃ x, l[k]? = some x := ⟨_, List.getElem?_eq_getElem hkl⟩
        have ox := OK.out x (List.mem_of_getElem? hx)
        have hr := hg k (spL x) (by rw [List.getElem?_map, hx]; rfl)
        have PX := Lib.hid (sp_pt hr)
        have MX := Lib.hid (sp_mn ox hr)
        have LP : Hid ((ptC x.at_).length = 33) := ptC_length ox.1
        have LM : Hid ((mnL x.coin).length = 35) := mnL_length ox.2
        have CV : Hid (∀ W, Below w.heap.size w W → W.cell? ⟨b, o + k * 68 + 33, none⟩ = some (.int .u64 (x.coin.val : Int))) := fun W hW => mn_val (range_below MX.out hW)
        have NX : Hid (addsC (l.take (k + 1)) = addC s x) := by show _ = _; rw [HS.out]; exact addsC_take hx
        obtain ⟨vx, hvx⟩ : ∃ vx, vx = x.coin.val := ⟨_, rfl⟩
        have VX := Lib.hid hvx
        have vxb : (vx : Int) ≤ 18446744073709551615 := by have := ox.2.2.1; omega
        have AD := Lib.hid (fun (W : World) (hW : Below w.heap.size w W) (hs : SetAt W g4 m s) => setadd_any E W g4 m s x.at_ x.coin (EC.of (HE.out.below hW)) hs ox.1 ox.2)
        obtain ⟨cp, hcp⟩ : ∃ cp, cp = ptC x.at_ := ⟨_, rfl⟩
        obtain ⟨cm, hcm⟩ : ∃ cm, cm = mnL x.coin := ⟨_, rfl⟩
        rw [← hcp] at PX LP AD
        rw [← hcm] at MX LM AD
        rw [← hvx] at CV
        have p0 : 0 ≤ (k : Int) := by omega
        have q0 : (k : Int) < (n : Int) := by omega
        clear hg hx ox hr hkl hcp hcm hvx
        obtain ⟨r, hr⟩ : ∃ r, r = addR s x.at_ x.coin := ⟨_, rfl⟩
        rw [← hr] at AD
        go_upto_region 12 with fail
        cases r with
        | zero =>
          have AL : Hid (addL s x.at_ x.coin = s ++ [x]) := addL_zero hr.symm
          rw [AL.out, show errV E 0 = .nilIface from rfl] at AD
          clear hr
          refine wp_region_held_drew (S := (fun w' => Below w.heap.size w w')) (by kernel_rfl) (Below.drew BB.out) (fun hHeld => ?_)
          have ST := Lib.hid (ST.out.below (Below.drew (Below.refl _ _)))
          generalize hwd : wr.drew = wd at ST hHeld ⊢
          clear hwd
          refine held_take (i := 0) (v := (.slice (some ⟨b, o, none⟩) n cap)) rfl (by kernel_rfl) (by kernel_rfl) (by kernel_rfl) (fun _ _ _ h => h) (Or.inl ⟨by rfl, fun w' _ => by kernel_rfl⟩) hHeld ?_
          go_frame
          refine held_take (i := 1) (v := (.int .i64 (k : Int))) rfl (by kernel_rfl) (by kernel_rfl) (by kernel_rfl) (fun _ _ _ h => h) (Or.inl ⟨by rfl, fun w' _ => by kernel_rfl⟩) hHeld ?_
          go_frame
          refine held_take (i := 2) (v := (.pointer (some ⟨b, o + k * 68, none⟩))) rfl (by kernel_rfl) (by kernel_rfl) (by kernel_rfl) (fun _ _ _ h => h) (Or.inl ⟨by rfl, fun w' _ => by go_simp⟩) hHeld ?_
          go_frame
          refine held_take (i := 3) (v := (.pointer (some ⟨b, o + k * 68, none⟩))) rfl (by kernel_rfl) (by kernel_rfl) (by kernel_rfl) (fun _ _ _ h => h) (Or.inl ⟨by rfl, fun w' _ => by kernel_rfl⟩) hHeld ?_
          go_frame
          refine held_take (i := 4) (v := (.agg cp.toArray)) rfl (by kernel_rfl) (by kernel_rfl) (by kernel_rfl) (fun _ _ _ h => h) (Sha.yieldsIf_load_mid (by rfl) 27 (.tmp 26) rfl b (o + k * 68) rfl cp _ (fun w' hw' => range_below PX.out hw') Tryd.underlying27 rfl (by rw [LP.out]; kernel_rfl)) hHeld ?_
          go_frame
          refine held_take (i := 5) (v := (.slice (some ⟨b, o, none⟩) n cap)) rfl (by kernel_rfl) (by kernel_rfl) (by kernel_rfl) (fun _ _ _ h => h) (Or.inl ⟨by rfl, fun w' _ => by kernel_rfl⟩) hHeld ?_
          go_frame
          refine held_take (i := 6) (v := (.int .i64 (k : Int))) rfl (by kernel_rfl) (by kernel_rfl) (by kernel_rfl) (fun _ _ _ h => h) (Or.inl ⟨by rfl, fun w' _ => by kernel_rfl⟩) hHeld ?_
          go_frame
          refine held_take (i := 7) (v := (.pointer (some ⟨b, o + k * 68, none⟩))) rfl (by kernel_rfl) (by kernel_rfl) (by kernel_rfl) (fun _ _ _ h => h) (Or.inl ⟨by rfl, fun w' _ => by go_simp⟩) hHeld ?_
          go_frame
          refine held_take (i := 8) (v := (.pointer (some ⟨b, o + k * 68 + 33, none⟩))) rfl (by kernel_rfl) (by kernel_rfl) (by kernel_rfl) (fun _ _ _ h => h) (Or.inl ⟨by rfl, fun w' _ => by kernel_rfl⟩) hHeld ?_
          go_frame
          refine held_take (i := 9) (v := (.agg cm.toArray)) rfl (by kernel_rfl) (by kernel_rfl) (by kernel_rfl) (fun _ _ _ h => h) (Sha.yieldsIf_load_mid (by rfl) 39 (.tmp 31) rfl b (o + k * 68 + 33) rfl cm _ (fun w' hw' => range_below MX.out hw') Tryd.underlying39 rfl (by rw [LM.out]; kernel_rfl)) hHeld ?_
          go_frame
          refine wpAnyH_ready (rs := [10]) (by kernel_rfl) (by simp) (held_cons rfl (fun K hK => ?_) AllReadyH.nil)
          go_simp
          refine (AD.out _ hHeld ST.out).mono ?_
          rintro e v1 ⟨rfl, m2, s2, hm2, k2⟩
          have bb : Below w.heap.size w v1 := Below.set hHeld k2 GW.out MM.out hHeld.size
          have ST2 := Lib.hid s2
          have MM2 : Hid (HiM w.heap.size m2) := HiM.add MM.out hHeld.size hm2
          clear s2 hm2 k2 ST
          have hv1 := bb
          clear bb hHeld
          go_wp2_with fail
          refine hK.out _ _ hv1 (fun hHeld => ?_)
          clear hK K hv1
          refine held_take (i := 11) (v := (.bool true)) rfl (by kernel_rfl) (by kernel_rfl) (by kernel_rfl) (fun _ _ _ h => h) (Or.inl ⟨by rfl, fun w' _ => by kernel_rfl⟩) hHeld ?_
          go_frame
          refine wpAnyH_done (by kernel_rfl) ?_ _
          have B2 := Lib.hid hHeld
          clear hHeld
          have cx := CV.out _ B2.out
          go_wp2_with fail
          go_roundw
          case rel =>
            refine ⟨k + 1, s ++ [x], m2, (t + vx) % 18446744073709551616, by omega, ?_, by go_num, ?_, ?_, ?_, ST2.out, MM2.out, B2.out⟩
            · rw [NX.out, addC, AL.out]
            · rw [List.length_append, ← SL.out]
              first | rfl | (simp; done)
            · first | rfl | (congr 1; rw [IntKind.wrap_u64]; omega)
            · rw [worthC_snoc, TS.out, ← VX.out]
              omega
          case measure => simp [intOf]; omega
        | succ c =>
          have AL : Hid (addL s x.at_ x.coin = s) := addL_succ hr.symm
          rw [AL.out] at AD
          change Hid (∀ (W : World), Below w.heap.size w W → SetAt W g4 m s → Calls _ _ _ W (fun e w' => e = .returned (.iface 142 (.pointer (some (E c)))) ∧ ∃ m', SetAt w' g4 m' s ∧ (m' = m ∨ ∃ b, m' = some b ∧ W.heap.size ≤ b) ∧ Kps (fun j => j ≠ g4 ∧ m ≠ some j) W w')) at AD
          clear hr
          refine wp_region_held_drew (S := (fun w' => Below w.heap.size w w')) (by kernel_rfl) (Below.drew BB.out) (fun hHeld => ?_)
          have ST := Lib.hid (ST.out.below (Below.drew (Below.refl _ _)))
          generalize hwd : wr.drew = wd at ST hHeld ⊢
          clear hwd
          refine held_take (i := 0) (v := (.slice (some ⟨b, o, none⟩) n cap)) rfl (by kernel_rfl) (by kernel_rfl) (by kernel_rfl) (fun _ _ _ h => h) (Or.inl ⟨by rfl, fun w' _ => by kernel_rfl⟩) hHeld ?_
          go_frame
          refine held_take (i := 1) (v := (.int .i64 (k : Int))) rfl (by kernel_rfl) (by kernel_rfl) (by kernel_rfl) (fun _ _ _ h => h) (Or.inl ⟨by rfl, fun w' _ => by kernel_rfl⟩) hHeld ?_
          go_frame
          refine held_take (i := 2) (v := (.pointer (some ⟨b, o + k * 68, none⟩))) rfl (by kernel_rfl) (by kernel_rfl) (by kernel_rfl) (fun _ _ _ h => h) (Or.inl ⟨by rfl, fun w' _ => by go_simp⟩) hHeld ?_
          go_frame
          refine held_take (i := 3) (v := (.pointer (some ⟨b, o + k * 68, none⟩))) rfl (by kernel_rfl) (by kernel_rfl) (by kernel_rfl) (fun _ _ _ h => h) (Or.inl ⟨by rfl, fun w' _ => by kernel_rfl⟩) hHeld ?_
          go_frame
          refine held_take (i := 4) (v := (.agg cp.toArray)) rfl (by kernel_rfl) (by kernel_rfl) (by kernel_rfl) (fun _ _ _ h => h) (Sha.yieldsIf_load_mid (by rfl) 27 (.tmp 26) rfl b (o + k * 68) rfl cp _ (fun w' hw' => range_below PX.out hw') Tryd.underlying27 rfl (by rw [LP.out]; kernel_rfl)) hHeld ?_
          go_frame
          refine held_take (i := 5) (v := (.slice (some ⟨b, o, none⟩) n cap)) rfl (by kernel_rfl) (by kernel_rfl) (by kernel_rfl) (fun _ _ _ h => h) (Or.inl ⟨by rfl, fun w' _ => by kernel_rfl⟩) hHeld ?_
          go_frame
          refine held_take (i := 6) (v := (.int .i64 (k : Int))) rfl (by kernel_rfl) (by kernel_rfl) (by kernel_rfl) (fun _ _ _ h => h) (Or.inl ⟨by rfl, fun w' _ => by kernel_rfl⟩) hHeld ?_
          go_frame
          refine held_take (i := 7) (v := (.pointer (some ⟨b, o + k * 68, none⟩))) rfl (by kernel_rfl) (by kernel_rfl) (by kernel_rfl) (fun _ _ _ h => h) (Or.inl ⟨by rfl, fun w' _ => by go_simp⟩) hHeld ?_
          go_frame
          refine held_take (i := 8) (v := (.pointer (some ⟨b, o + k * 68 + 33, none⟩))) rfl (by kernel_rfl) (by kernel_rfl) (by kernel_rfl) (fun _ _ _ h => h) (Or.inl ⟨by rfl, fun w' _ => by kernel_rfl⟩) hHeld ?_
          go_frame
          refine held_take (i := 9) (v := (.agg cm.toArray)) rfl (by kernel_rfl) (by kernel_rfl) (by kernel_rfl) (fun _ _ _ h => h) (Sha.yieldsIf_load_mid (by rfl) 39 (.tmp 31) rfl b (o + k * 68 + 33) rfl cm _ (fun w' hw' => range_below MX.out hw') Tryd.underlying39 rfl (by rw [LM.out]; kernel_rfl)) hHeld ?_
          go_frame
          refine wpAnyH_ready (rs := [10]) (by kernel_rfl) (by simp) (held_cons rfl (fun K hK => ?_) AllReadyH.nil)
          go_simp
          refine (AD.out _ hHeld ST.out).mono ?_
          rintro e v1 ⟨rfl, m2, s2, hm2, k2⟩
          have bb : Below w.heap.size w v1 := Below.set hHeld k2 GW.out MM.out hHeld.size
          have ST2 := Lib.hid s2
          have MM2 : Hid (HiM w.heap.size m2) := HiM.add MM.out hHeld.size hm2
          clear s2 hm2 k2 ST
          have hv1 := bb
          clear bb hHeld
          go_wp2_with fail
          refine hK.out _ _ hv1 (fun hHeld => ?_)
          clear hK K hv1
          refine held_take (i := 11) (v := (.bool false)) rfl (by kernel_rfl) (by kernel_rfl) (by kernel_rfl) (fun _ _ _ h => h) (Or.inl ⟨by rfl, fun w' _ => by kernel_rfl⟩) hHeld ?_
          go_frame
          refine wpAnyH_done (by kernel_rfl) ?_ _
          have B2 := Lib.hid hHeld
          clear hHeld
          go_wp2_with fail
          go_roundw
          case rel =>
            refine ⟨k + 1, s, m2, t, by omega, ?_, by go_num, ?_, rfl, TS.out, ST2.out, MM2.out, B2.out⟩
            · rw [NX.out, addC, AL.out]
            · rw [← SL.out]
          case measure => simp [intOf]; omega
      · have hge : ¬ (k : Int) < (n : Int) := by omega
        go_wp2_with fail
        refine (setall_any wr g4 m s ST.out (by rw [← SL.out]; omega)).mono ?_
        rintro e w3 ⟨v3, l', rfl, p1, p2, p3, p4, p5⟩
        obtain ⟨sp3, cap3, rfl⟩ := p3.shape
        rw [List.length_map, p1.length_eq, ← SL.out] at p3 ⊢
        have P1 := Lib.hid p1
        have P2 := Lib.hid p2
        have P3 := Lib.hid p3
        have ST3 := Lib.hid (ST.out.below p5)
        have B3 := Lib.hid (BB.out.trans (p5.mono BB.out.size))
        have OS : Hid (∀ x ∈ l', SpOk x) := fun x hx => ST.out.map.ok x (p1.mem_iff.1 hx)
        have L3 : Hid (l'.length = q) := by show _ = _; rw [p1.length_eq, SL.out]
        clear p1 p2 p3 p4 p5 ST
        go_wp2_with fail
        go_loopw [9] (fun vi wr => OsInv q w3 vi wr) (fun vi _ => q - (intOf vi).toNat)
        case atStart => exact ⟨1, by omega, by omega, rfl, Below.refl _ _⟩
        case round =>
          clear BB
          obtain ⟨k, hk1, hkq, rfl, hb⟩ := hrel
          have BB := Lib.hid hb
          clear hb hlt hge
          by_cases hlt : k < q
          · obtain ⟨b, o, rfl, hg⟩ := (P3.out.below BB.out).get (by omega)
            obtain ⟨j, hj⟩ : ∃ j, k = j + 1 := ⟨k - 1, by omega⟩
            have hjl : j < l'.length := by rw [L3.out]; omega
            have hkl : k < l'.length := by rw [L3.out]; omega
            obtain ⟨x, hx⟩ : ∃ x, l'[j]? = some x := ⟨_, List.getElem?_eq_getElem hjl⟩
            obtain ⟨y, hy⟩ : ∃ y, l'[k]? = some y := ⟨_, List.getElem?_eq_getElem hkl⟩
            have ox := OS.out x (List.mem_of_getElem? hx)
            have oy := OS.out y (List.mem_of_getElem? hy)
            have PX := Lib.hid (sp_pt (hg j (spL x) (by rw [List.getElem?_map, hx]; rfl)))
            have PY := Lib.hid (sp_pt (hg k (spL y) (by rw [List.getElem?_map, hy]; rfl)))
            have LP : Hid ((ptC x.at_).length = 33) := ptC_length ox.1
            have LQ : Hid ((ptC y.at_).length = 33) := ptC_length oy.1
            have LL : Hid (∀ W, Calls Tryd.prog 26 #[.agg (ptC x.at_).toArray, .agg (ptC y.at_).toArray] W fun e w' => e = .returned (.bool true) ∧ Below W.heap.size W w') := fun W => rlesspt_any _ _ _ _ ox.1.1 oy.1.1 true (sorted_next P2.out hx (by rw [← hj]; exact hy)).symm W
            obtain ⟨cp, hcp⟩ : ∃ cp, cp = ptC x.at_ := ⟨_, rfl⟩
            obtain ⟨cq, hcq⟩ : ∃ cq, cq = ptC y.at_ := ⟨_, rfl⟩
            rw [← hcp] at PX LP LL
            rw [← hcq] at PY LQ LL
            have p0 : 0 ≤ (k : Int) := by omega
            have q0 : (k : Int) < (q : Int) := by omega
            have r0 : 0 ≤ (j : Int) := by omega
            have r1 : (j : Int) < (q : Int) := by omega
            have kj : (k : Int) = (j : Int) + 1 := by omega
            have KJ := Lib.hid kj
            clear hg hx hy ox oy hjl hkl hcp hcq kj hj
            go_upto_region 19 with fail
            refine wp_region_held_drew (S := (fun w' => Below wr.heap.size wr w')) (by kernel_rfl) (Below.drew (Below.refl _ _)) (fun hHeld => ?_)
            generalize hwd : wr.drew = wd at  hHeld ⊢
            clear hwd
            refine held_take (i := 0) (v := (.slice (some ⟨b, o, none⟩) q cap3)) rfl (by kernel_rfl) (by kernel_rfl) (by kernel_rfl) (fun _ _ _ h => h) (Or.inl ⟨by rfl, fun w' _ => by kernel_rfl⟩) hHeld ?_
            go_frame
            refine held_take (i := 1) (v := (.int .i64 (k : Int))) rfl (by kernel_rfl) (by kernel_rfl) (by kernel_rfl) (fun _ _ _ h => h) (Or.inl ⟨by rfl, fun w' _ => by kernel_rfl⟩) hHeld ?_
            go_frame
            refine held_take (i := 2) (v := (.int .i64 (j : Int))) rfl (by kernel_rfl) (by kernel_rfl) (by kernel_rfl) (fun _ _ _ h => h) (Or.inl ⟨by rfl, fun w' _ => by have kj := KJ.out; go_simp; first | omega | exact IntWalk.i64_in _ (by omega)⟩) hHeld ?_
            go_frame
            refine held_take (i := 3) (v := (.pointer (some ⟨b, o + j * 68, none⟩))) rfl (by kernel_rfl) (by kernel_rfl) (by kernel_rfl) (fun _ _ _ h => h) (Or.inl ⟨by rfl, fun w' _ => by go_simp⟩) hHeld ?_
            go_frame
            refine held_take (i := 4) (v := (.pointer (some ⟨b, o + j * 68, none⟩))) rfl (by kernel_rfl) (by kernel_rfl) (by kernel_rfl) (fun _ _ _ h => h) (Or.inl ⟨by rfl, fun w' _ => by kernel_rfl⟩) hHeld ?_
            go_frame
            refine held_take (i := 5) (v := (.agg cp.toArray)) rfl (by kernel_rfl) (by kernel_rfl) (by kernel_rfl) (fun _ _ _ h => h) (Sha.yieldsIf_load_mid (by rfl) 27 (.tmp 56) rfl b (o + j * 68) rfl cp _ (fun w' hw' => range_below PX.out hw') Tryd.underlying27 rfl (by rw [LP.out]; kernel_rfl)) hHeld ?_
            go_frame
            refine held_take (i := 6) (v := (.slice (some ⟨b, o, none⟩) q cap3)) rfl (by kernel_rfl) (by kernel_rfl) (by kernel_rfl) (fun _ _ _ h => h) (Or.inl ⟨by rfl, fun w' _ => by kernel_rfl⟩) hHeld ?_
            go_frame
            refine held_take (i := 7) (v := (.int .i64 (k : Int))) rfl (by kernel_rfl) (by kernel_rfl) (by kernel_rfl) (fun _ _ _ h => h) (Or.inl ⟨by rfl, fun w' _ => by kernel_rfl⟩) hHeld ?_
            go_frame
            refine held_take (i := 8) (v := (.pointer (some ⟨b, o + k * 68, none⟩))) rfl (by kernel_rfl) (by kernel_rfl) (by kernel_rfl) (fun _ _ _ h => h) (Or.inl ⟨by rfl, fun w' _ => by go_simp⟩) hHeld ?_
            go_frame
            refine held_take (i := 9) (v := (.pointer (some ⟨b, o + k * 68, none⟩))) rfl (by kernel_rfl) (by kernel_rfl) (by kernel_rfl) (fun _ _ _ h => h) (Or.inl ⟨by rfl, fun w' _ => by kernel_rfl⟩) hHeld ?_
            go_frame
            refine held_take (i := 10) (v := (.agg cq.toArray)) rfl (by kernel_rfl) (by kernel_rfl) (by kernel_rfl) (fun _ _ _ h => h) (Sha.yieldsIf_load_mid (by rfl) 27 (.tmp 61) rfl b (o + k * 68) rfl cq _ (fun w' hw' => range_below PY.out hw') Tryd.underlying27 rfl (by rw [LQ.out]; kernel_rfl)) hHeld ?_
            go_frame
            refine wpAnyH_ready (rs := [11]) (by kernel_rfl) (by simp) (held_cons rfl (fun K hK => ?_) AllReadyH.nil)
            go_simp
            refine (LL.out _).mono ?_
            rintro e v1 ⟨rfl, bb⟩
            have hv1 := hHeld.trans (bb.mono hHeld.size)
            clear bb hHeld
            go_wp2_with fail
            refine hK.out _ _ hv1 (fun hHeld => ?_)
            clear hK K hv1
            refine held_take (i := 12) (v := (.bool false)) rfl (by kernel_rfl) (by kernel_rfl) (by kernel_rfl) (fun _ _ _ h => h) (Or.inl ⟨by rfl, fun w' _ => by kernel_rfl⟩) hHeld ?_
            go_frame
            refine wpAnyH_done (by kernel_rfl) ?_ _
            have BH := Lib.hid hHeld
            clear hHeld
            go_wp2_with fail
            go_roundw
            case rel => exact ⟨k + 1, by omega, by omega, by go_num, BB.out.trans (BH.out.mono BB.out.size)⟩
            case measure => simp [intOf]; omega
          · have hge : ¬ (k : Int) < (q : Int) := by omega
            have ST4 := Lib.hid (ST3.out.below BB.out)
            have B4 := Lib.hid (B3.out.trans (BB.out.mono B3.out.size))
            go_wp2_with fail
            refine (setlen_k wr g4 m s ST4.out (q : Int) (by rw [SL.out])).mono ?_
            rintro e w5 ⟨rfl, b5⟩
            have ST5 := Lib.hid (ST4.out.below b5)
            have B5 := Lib.hid (B4.out.trans (b5.mono B4.out.size))
            clear b5
            go_wp2_with fail
            refine (settotal_any w5 g4 m s ST5.out t TS.out).mono ?_
            rintro e w6 ⟨rfl, b6⟩
            have B6 := Lib.hid (B5.out.trans (b6.mono B5.out.size))
            clear b6
            go_wp2_with fail
            go_ret
            exact ⟨by simp, B6.out⟩
end Go.Proofs.YtlmfchcafhidoaaDoor.Sha

/-
  Two sets side by side; a set's coins in the one order; a part of a coin written in its box. No conditions beyond those that each states.
-/
namespace Go.Proofs.YtlmfchcafhidoaaDoor.Sha
open Go Go.RowKit
theorem ex_sorted (l : List TSp) (ho : ∀ x ∈ l, SpOk x) (ha : l.Pairwise (fun x y => x.at_ ≠ y.at_)) : ∃ L, L.Perm l ∧ SortedC L := by
  obtain ⟨d, rfl⟩ := lift_ok l ho
  have ht : ∀ a b c : OSp, (!ltSp b.1 a.1) = true → (!ltSp c.1 b.1) = true → (!ltSp c.1 a.1) = true := fun a b c h1 h2 => by
    have := swoS.ntrans c b a
    rw [lt_cfS, lt_cfS, lt_cfS] at this
    simp only [Bool.not_eq_true'] at h1 h2 ⊢
    exact this h2 h1
  have hto : ∀ a b : OSp, ((!ltSp b.1 a.1) || (!ltSp a.1 b.1)) = true := fun a b => by
    cases h : ltSp b.1 a.1
    · rfl
    · rw [ltSp_asym b.2 a.2 h]; rfl
  have hp := List.mergeSort_perm d (fun a b => !ltSp b.1 a.1)
  have hs := List.pairwise_mergeSort ht hto d
  refine ⟨(d.mergeSort (fun a b => !ltSp b.1 a.1)).map (·.1), hp.map _, ?_⟩
  have ha2 : ((d.mergeSort (fun a b => !ltSp b.1 a.1)).map (·.1)).Pairwise (fun x y => x.at_ ≠ y.at_) := ((hp.map (·.1)).pairwise_iff (fun {x y} h => Ne.symm h)).2 ha
  unfold SortedC
  rw [List.pairwise_map] at ha2 ⊢
  exact (hs.and ha2).imp (fun {a b} ⟨h1, h2⟩ => ltSp_total b.2 a.2 (fun e => h2 e.symm) (by simpa using h1))
section
variable {w w' : World} {a : Nat} {m : Option Nat} {l L : List TSp}
theorem setsum_srt (w : World) (a : Nat) (m : Option Nat) (l L : List TSp) (h : SetAt w a m l) (hn : l.length ≤ 1048576) (hk : KTab w) (hp : L.Perm l) (hs : SortedC L) (sl : List UInt8) (hsl : sl = sha (bytesC L)) :
    Calls Tryd.prog 24 #[.pointer (some ⟨a, 0, none⟩)] w fun e w' => e = .returned (.agg (sl.map bV).toArray) ∧ Below w.heap.size w w' :=
  (setsum_any w a m l h hn hk).mono fun _ _ ⟨l', h1, h2, h3, h4⟩ => ⟨by rw [h1, hsl, sorted_one (fun x hx => h.map.ok x (h2.mem_iff.1 hx)) (h2.trans hp.symm) h3 hs], h4⟩
theorem setall_srt (w : World) (a : Nat) (m : Option Nat) (l L : List TSp) (h : SetAt w a m l) (hn : l.length ≤ 1048576) (hp : L.Perm l) (hs : SortedC L) :
    Calls Tryd.prog 22 #[.pointer (some ⟨a, 0, none⟩)] w fun e w' => ∃ v, e = .returned v ∧ RwAt 68 w' v (L.map spL) ∧ Below w.heap.size w w' :=
  (setall_any w a m l h hn).mono fun _ _ ⟨v, l', h1, h2, h3, h4, _, h6⟩ => ⟨v, h1, by
    rw [← sorted_one (fun x hx => h.map.ok x (h2.mem_iff.1 hx)) (h2.trans hp.symm) h3 hs]
    exact h4, h6⟩
end
/-- Two sets that share no memory. -/
structure TwoS (w : World) (a : Nat) (m : Option Nat) (s : List TSp) (b : Nat) (k : Option Nat) (t : List TSp) : Prop where
  l : SetAt w a m s
  r : SetAt w b k t
  ne : a ≠ b
  x1 : m ≠ some b
  x2 : k ≠ some a
  x3 : ∀ q, m = some q → k ≠ some q
section
variable {w w' : World} {a b : Nat} {m m' k : Option Nat} {s s' t : List TSp}
theorem TwoS.symm (h : TwoS w a m s b k t) : TwoS w b k t a m s := ⟨h.r, h.l, fun e => h.ne e.symm, h.x2, h.x1, fun q e e' => h.x3 q e' e⟩
theorem TwoS.below (h : TwoS w a m s b k t) (hb : Below w.heap.size w w') : TwoS w' a m s b k t := ⟨h.l.below hb, h.r.below hb, h.ne, h.x1, h.x2, h.x3⟩
theorem TwoS.left (h : TwoS w a m s b k t) (hk : Kps (fun j => j ≠ a ∧ m ≠ some j) w w') (hs : SetAt w' a m' s') (hm : m' = m ∨ ∃ q, m' = some q ∧ w.heap.size ≤ q) : TwoS w' a m' s' b k t := by
  have hb : b < w.heap.size := (Array.getElem?_eq_some_iff.1 h.r.box).1
  refine ⟨hs, h.r.kps hk ⟨fun e => h.ne e.symm, h.x1⟩ (fun q e => ⟨fun e' => h.x2 (by rw [e, e']), fun e' => h.x3 q e' e⟩), h.ne, ?_, h.x2, ?_⟩
  · rcases hm with rfl | ⟨q, rfl, hq⟩
    · exact h.x1
    · exact fun e => by have := Option.some.inj e; omega
  · rcases hm with rfl | ⟨q, rfl, hq⟩
    · exact h.x3
    · intro q' e e'
      have := Option.some.inj e
      have := h.r.map.lt q' e'
      omega
theorem TwoS.right {k' : Option Nat} {t' : List TSp} (h : TwoS w a m s b k t) (hk : Kps (fun j => j ≠ b ∧ k ≠ some j) w w') (hs : SetAt w' b k' t') (hm : k' = k ∨ ∃ q, k' = some q ∧ w.heap.size ≤ q) : TwoS w' a m s b k' t' :=
  (h.symm.left hk hs hm).symm
end
section
variable {ops : Array Oper} {rest : List Oper} {op : Oper} {a : Act} {w : World} {Q : Exit → Act → World → Prop} {g : Nat}
theorem st_spN (hgd : op.guard = none) (x y : Operand) (ho : op.op = .store 25 x y) (hx : a.eval x = .pointer (some ⟨g, 32, none⟩)) (i : Nat) (hy : a.eval y = .int .u32 (i : Int)) (z : TSp) (hz : SpOk z) (hr : w.heap[g]? = some (.cells (spL z).toArray 45 (0, 0)))
    (hK : ∀ w', w'.heap[g]? = some (.cells (spL ⟨⟨z.at_.h, i⟩, z.coin⟩).toArray 45 (0, 0)) → w.grownBy w' (some g) → wpList Tryd.prog ops Q rest (a.put op.dst undef) w') : wpList Tryd.prog ops Q (op :: rest) a w :=
  wpList_store_part hgd 25 x y ho g 32 (z.at_.h.map bV) [nV z.at_.n] (mnL z.coin) [nV i] 45 (.int .u32 (i : Int)) hx hy rfl (by rw [List.length_map, hz.1.1]) rfl hr (by kernel_rfl) (fun u hu => by
    rw [List.mem_singleton.1 hu]
    rfl) (fun w' q1 q2 => hK w' q1 q2)
theorem st_spV (hgd : op.guard = none) (x y : Operand) (ho : op.op = .store 37 x y) (hx : a.eval x = .pointer (some ⟨g, 33, none⟩)) (i : Nat) (hy : a.eval y = .int .u64 (i : Int)) (z : TSp) (hz : SpOk z) (hr : w.heap[g]? = some (.cells (spL z).toArray 45 (0, 0)))
    (hK : ∀ w', w'.heap[g]? = some (.cells (spL ⟨z.at_, ⟨i, z.coin.lock, z.coin.height, z.coin.base⟩⟩).toArray 45 (0, 0)) → w.grownBy w' (some g) → wpList Tryd.prog ops Q rest (a.put op.dst undef) w') : wpList Tryd.prog ops Q (op :: rest) a w := by
  have e : ∀ (n : Nat), spL ⟨z.at_, ⟨n, z.coin.lock, z.coin.height, z.coin.base⟩⟩ = ptC z.at_ ++ [Value.int .u64 (n : Int)] ++ mnR z.coin := fun n => by simp [spL, mnL, mnR]
  refine wpList_store_part hgd 37 x y ho g 33 (ptC z.at_) [.int .u64 (z.coin.val : Int)] (mnR z.coin) [.int .u64 (i : Int)] 45 (.int .u64 (i : Int)) hx hy rfl (ptC_length hz.1) rfl (by rw [← e]; exact hr) (by kernel_rfl) (fun u hu => by
    rw [List.mem_singleton.1 hu]
    rfl) (fun w' q1 q2 => hK w' (by rw [e]; exact q1) q2)
theorem st_ptN (hgd : op.guard = none) (x y : Operand) (ho : op.op = .store 25 x y) (hx : a.eval x = .pointer (some ⟨g, 32, none⟩)) (i : Nat) (hy : a.eval y = .int .u32 (i : Int)) (z : TPt) (hz : PtOk z) (hr : w.heap[g]? = some (.cells (ptC z).toArray 27 (0, 0)))
    (hK : ∀ w', w'.heap[g]? = some (.cells (ptC ⟨z.h, i⟩).toArray 27 (0, 0)) → w.grownBy w' (some g) → wpList Tryd.prog ops Q rest (a.put op.dst undef) w') : wpList Tryd.prog ops Q (op :: rest) a w := by
  have e : ∀ (n : Nat), ptC ⟨z.h, n⟩ = z.h.map bV ++ [nV n] ++ [] := fun n => by simp [ptC, ptL]
  refine wpList_store_part hgd 25 x y ho g 32 (z.h.map bV) [nV z.n] [] [nV i] 27 (.int .u32 (i : Int)) hx hy rfl (by rw [List.length_map, hz.1]) rfl (by rw [← e]; exact hr) (by kernel_rfl) (fun u hu => by
    rw [List.mem_singleton.1 hu]
    rfl) (fun w' q1 q2 => hK w' (by rw [e]; exact q1) q2)
theorem st_mnV (hgd : op.guard = none) (x y : Operand) (ho : op.op = .store 37 x y) (hx : a.eval x = .pointer (some ⟨g, 0, none⟩)) (i : Nat) (hy : a.eval y = .int .u64 (i : Int)) (z : TMn) (hr : w.heap[g]? = some (.cells (mnL z).toArray 39 (0, 0)))
    (hK : ∀ w', w'.heap[g]? = some (.cells (mnL ⟨i, z.lock, z.height, z.base⟩).toArray 39 (0, 0)) → w.grownBy w' (some g) → wpList Tryd.prog ops Q rest (a.put op.dst undef) w') : wpList Tryd.prog ops Q (op :: rest) a w :=
  wpList_store_part hgd 37 x y ho g 0 [] [.int .u64 (z.val : Int)] (mnR z) [.int .u64 (i : Int)] 39 (.int .u64 (i : Int)) hx hy rfl rfl rfl hr (by kernel_rfl) (fun u hu => by
    rw [List.mem_singleton.1 hu]
    rfl) (fun w' q1 q2 => hK w' q1 q2)
end
/-! The coins that the statement makes: each at a place of its own, its value in its bound. -/
def bkX (l : List TSp) (i : Nat) : TSp := ⟨⟨(l.getD i spZ).at_.h, i⟩, mnT (l.getD i spZ).coin⟩
def bkS (l : List TSp) (k : Nat) : List TSp := (List.range k).map (bkX l)
def bkT (l : List TSp) (n k : Nat) : List TSp := (List.range k).map fun i => bkX l (n - 1 - i)
theorem bkX_ok {l : List TSp} (h : ∀ x ∈ l, SpOk x) {i : Nat} (hi : i ≤ 4294967295) : SpOk (bkX l i) := by
  have h2 : SpOk (l.getD i spZ) := by
    rw [List.getD_eq_getElem?_getD]
    cases hx : l[i]? with
    | none => exact spZ_ok
    | some x => exact h x (List.mem_of_getElem? hx)
  exact ⟨⟨h2.1.1, hi⟩, mnT_ok h2.2⟩
theorem bkS_succ (l : List TSp) (k : Nat) : bkS l (k + 1) = bkS l k ++ [bkX l k] := by simp [bkS, List.range_succ]
theorem bkT_succ (l : List TSp) (n k : Nat) : bkT l n (k + 1) = bkT l n k ++ [bkX l (n - 1 - k)] := by simp [bkT, List.range_succ]
theorem bkS_none (l : List TSp) {k i : Nat} (h : k ≤ i) : getC (bkS l k) (bkX l i).at_ = none := getC_none fun x hx e => by
  obtain ⟨j, hj, rfl⟩ := List.mem_map.1 hx
  have hj := List.mem_range.1 hj
  have := congrArg TPt.n e
  simp only [bkX] at this
  omega
theorem bkT_none (l : List TSp) {n k : Nat} (h : k < n) : getC (bkT l n k) (bkX l (n - 1 - k)).at_ = none := getC_none fun x hx e => by
  obtain ⟨j, hj, rfl⟩ := List.mem_map.1 hx
  have hj := List.mem_range.1 hj
  have := congrArg TPt.n e
  simp only [bkX] at this
  omega
theorem bkT_rev (l : List TSp) (n : Nat) : bkT l n n = (bkS l n).reverse := by
  apply List.ext_getElem
  · simp [bkT, bkS]
  · intro i h1 h2
    simp [bkT, bkS]
theorem bk_perm (l : List TSp) (n : Nat) : (bkT l n n).Perm (bkS l n) := by rw [bkT_rev]; exact List.reverse_perm _
theorem bkS_length (l : List TSp) (n : Nat) : (bkS l n).length = n := by simp [bkS]
theorem bkT_length (l : List TSp) (n k : Nat) : (bkT l n k).length = k := by simp [bkT]
theorem bkS_get (l : List TSp) {n i : Nat} (h : i < n) : (bkS l n)[i]? = some (bkX l i) := by
  rw [bkS, List.getElem?_map, List.getElem?_range h]
  rfl
theorem del_length {l : List TSp} {p : TPt} {j : Nat} {x : TSp} (ha : l.Pairwise (fun x y => x.at_ ≠ y.at_)) (hj : l[j]? = some x) (hp : x.at_ = p) : (delC l p).length + 1 = l.length := by
  have hjl := (List.getElem?_eq_some_iff.1 hj).1
  rw [← delC_idx ha hj hp, List.length_eraseIdx_of_lt hjl]
  omega
theorem del_none (l : List TSp) (p : TPt) : getC (delC l p) p = none := getC_none fun x hx e => by
  have := (List.mem_filter.1 hx).2
  simp [e] at this
theorem del_perm {l : List TSp} {p : TPt} {j : Nat} {x : TSp} (ha : l.Pairwise (fun x y => x.at_ ≠ y.at_)) (hj : l[j]? = some x) (hp : x.at_ = p) : (delC l p ++ [x]).Perm l := by
  obtain ⟨hjl, hx⟩ := List.getElem?_eq_some_iff.1 hj
  have e : l = l.take j ++ x :: l.drop (j + 1) := by
    conv => lhs; rw [← List.take_append_drop j l]
    rw [List.drop_eq_getElem_cons hjl, hx]
  rw [← delC_idx ha hj hp, List.eraseIdx_eq_take_drop_succ]
  have h1 : (l.take j ++ x :: l.drop (j + 1)).Perm (x :: (l.take j ++ l.drop (j + 1))) := List.perm_middle
  rw [← e] at h1
  exact (List.perm_append_comm (l₁ := l.take j ++ l.drop (j + 1)) (l₂ := [x])).trans h1.symm
end Go.Proofs.YtlmfchcafhidoaaDoor.Sha
