/-
  The statement on whatever a set is told answers true. Nothing that was there turns. Conditions: what is told lies where the slice says; the errors, the table of the rounds' words are there.
-/
import Derived.Deep.CutRange
import Derived.Test.YtlmfchcafhidoaaDoorMg13
import Derived.Test.YtlmfchcafhidoaaDoorMg01
namespace Go.Proofs.YtlmfchcafhidoaaDoor.Sha
open Go Go.RowKit
def PyInv (n : Nat) (p : TPt) (g3 g6 g7 : Nat) (w : World) (vi : Value) (wr : World) : Prop :=
  ∃ (k : Nat) (m : Option Nat) (s L : List TSp) (v : Value), k ≤ n ∧ vi = .int .i64 (k : Int) ∧ SetAt wr g6 m s ∧ RefAt wr w.heap.size g7 v L ∧ PyL s L ∧ s.length ≤ k ∧ HiM w.heap.size m ∧ wr.heap[g3]? = some (.cells (ptC p).toArray 27 (0, 0)) ∧ Below w.heap.size w wr
set_option maxHeartbeats 4000000 in
set_option maxRecDepth 100000 in
theorem coinplay_main (E : Nat → Addr) (l : List TDo) (v : Value) (p : TPt) (w : World) (hE : Errs w E) (hk : KTab w) (hl : RwAt 70 w v (l.map doL)) (ho : ∀ x ∈ l, DoOk x) (hmax : l.length ≤ 9223372036854775807) (hp : PtOk p) :
    Calls Tryd.prog 3 #[v, .agg (ptC p).toArray] w fun e w' => e = .returned (.bool true) ∧ Below w.heap.size w w' := by
  obtain ⟨sp, cap, rfl⟩ := hl.shape
  rw [List.length_map] at hl ⊢
  obtain ⟨n, hn⟩ : ∃ n, n = l.length := ⟨_, rfl⟩
  rw [← hn] at hl hmax ⊢
  have N := Lib.hid hn
  have HE := Lib.hid hE
  have HK := Lib.hid hk
  have HL := Lib.hid hl
  have OK := Lib.hid ho
  have HP := Lib.hid hp
  have PSZ : Hid ((ptC p).toArray.size = 33) := ptC_size hp
  clear hn hE hl ho hk hp
  go_enter Tryd.func3, Tryd.ntmps3
  go_upto_region 1 with fail
  have f3 := heap_alloc_new w (.cells (ptC p).toArray 27 (0, 0))
  have b0 := (Below.refl w.heap.size w).alloc (Nat.le_refl _) (.cells (ptC p).toArray 27 (0, 0))
  generalize hw1 : World.alloc _ _ = w1
  have e1 : w.alloc (.cells (ptC p).toArray 27 (0, 0)) = w1 := hw1
  rw [e1] at f3 b0
  obtain ⟨g3, hg3⟩ : ∃ g3, g3 = w.heap.size := ⟨_, rfl⟩
  rw [← hg3] at f3 ⊢
  have G3 : Hid (w.heap.size ≤ g3) := by show _ ≤ _; rw [hg3]; exact Nat.le_refl _
  have B1 := Lib.hid b0
  clear hw1 e1 hg3 b0
  go_wp2_with fail
  refine (cfirst_any E w1 (HE.out.below B1.out)).mono ?_
  rintro e w2 ⟨rfl, b2⟩
  have F3 := Lib.hid (row_below f3 b2)
  have B2 := Lib.hid (B1.out.trans (b2.mono B1.out.size))
  clear f3 b2
  by_cases hbig : 60 < n
  · have hb' : (60 : Int) < (n : Int) := by omega
    go_wp2_with fail
    go_ret
    exact ⟨rfl, B2.out⟩
  have hb' : ¬ (60 : Int) < (n : Int) := by omega
  go_upto_region 7 with fail
  have f6 := heap_alloc_new w2 (.cells #[.map none] 32 (0, 0))
  have b6 := (Below.refl w2.heap.size w2).alloc (Nat.le_refl _) (.cells #[.map none] 32 (0, 0))
  generalize hw3 : World.alloc _ _ = w3
  have e3 : w2.alloc (.cells #[.map none] 32 (0, 0)) = w3 := hw3
  rw [e3] at f6 b6
  obtain ⟨g6, hg6⟩ : ∃ g6, g6 = w2.heap.size := ⟨_, rfl⟩
  rw [← hg6] at f6 ⊢
  have G6 : Hid (w.heap.size ≤ g6) := by show _ ≤ _; rw [hg6]; exact B2.out.size
  have F3 := Lib.hid (row_below F3.out b6)
  have B3 := Lib.hid (B2.out.trans (b6.mono B2.out.size))
  clear hw3 e3 hg6 b6
  go_upto_region 8 with fail
  have f7 := heap_alloc_new w3 (.cells #[.slice none 0 0] 36 (0, 0))
  have b7 := (Below.refl w3.heap.size w3).alloc (Nat.le_refl _) (.cells #[.slice none 0 0] 36 (0, 0))
  generalize hw4 : World.alloc _ _ = w4
  have e4 : w3.alloc (.cells #[.slice none 0 0] 36 (0, 0)) = w4 := hw4
  rw [e4] at f7 b7
  obtain ⟨g7, hg7⟩ : ∃ g7, g7 = w3.heap.size := ⟨_, rfl⟩
  rw [← hg7] at f7 ⊢
  have G7 : Hid (w.heap.size ≤ g7) := by show _ ≤ _; rw [hg7]; exact B3.out.size
  have F3 := Lib.hid (row_below F3.out b7)
  have B4 := Lib.hid (B3.out.trans (b7.mono B3.out.size))
  have S0 : Hid (SetAt w4 g6 none []) := ⟨row_below f6 b7, rfl⟩
  have R0 : Hid (RefAt w4 w.heap.size g7 (.slice none 0 0) []) := ⟨f7, RwOwn.nil _ _ _ _⟩
  have n60 : n ≤ 60 := by omega
  clear hw4 e4 hg7 b7 f6 f7 hb' hbig
  go_wp2_with fail
  go_loopw [8] (fun vi wr => PyInv n p g3 g6 g7 w vi wr) (fun vi _ => n - (intOf vi).toNat)
  case atStart => exact ⟨0, none, [], [], _, by omega, rfl, S0.out, R0.out, ⟨List.Perm.refl _, List.Pairwise.nil⟩, by simp, (fun q e => by cases e), F3.out, B4.out⟩
  case round =>
    clear S0 R0 F3 B4 B3 B2
    obtain ⟨k, m, s, L, v, hkn, rfl, hS, hR, hpl, hsl, hhi, hf3, hb⟩ := hrel
    have SS := Lib.hid hS
    have RR := Lib.hid hR
    have PL := Lib.hid hpl
    have SLE := Lib.hid hsl
    have HI := Lib.hid hhi
    have F3 := Lib.hid hf3
    have BB := Lib.hid hb
    clear hS hR hpl hsl hhi hf3 hb
    by_cases hlt : k < n
    · skip
      obtain ⟨b, o, rfl, hg⟩ := HL.out.get (by omega)
      obtain ⟨x, hx⟩ : ∃ x, l[k]? = some x := ⟨_, List.getElem?_eq_getElem (by rw [← N.out]; exact hlt)⟩
      have ox := OK.out x (List.mem_of_getElem? hx)
      have RX := Lib.hid (hg k (doL x) (by rw [List.getElem?_map, hx]; rfl))
      have OX := Lib.hid ox
      have LX : Hid ((doL x).length = 70) := doL_length ox
      have ZX : Hid ((doL x).toArray.size = 70) := doL_size ox
      have p0 : 0 ≤ (k : Int) := by omega
      have q0 : (k : Int) < (n : Int) := by omega
      clear hg hx ox
      go_upto_region 12 with ((with_reducible show wpList _ _ _ _ _ _); first | (refine wpList_load_mid rfl 41 (.tmp 39) rfl b (o + k * 70) rfl (doL x) _ (Lib.hid (range_below RX.out BB.out)).out Tryd.underlying41 rfl (by rw [LX.out]; kernel_rfl) ?_; go_frame) | (refine wpList_store_row rfl 41 (.tmp 9) (.tmp 40) rfl wr.heap.size (doL x).toArray rfl rfl 41 _ (heap_alloc_new _ _) (by rw [ZX.out]; kernel_rfl) (by rw [ZX.out]; rfl) (doL_all _) ?_; go_frame))
      obtain ⟨_, f2, f3, f4⟩ := fill_setup (Below.refl wr.heap.size wr) (doL ⟨0, 0, ptZ, mnZ⟩).toArray (doL x).toArray 41
      generalize hqy0 : World.setRow _ _ _ = y0
      have ey0 : World.setRow (wr.alloc (.cells (doL ⟨0, 0, ptZ, mnZ⟩).toArray 41)) wr.heap.size (doL x).toArray = y0 := hqy0
      rw [ey0] at f2 f3 f4
      obtain ⟨g9, hg9⟩ : ∃ g9, g9 = wr.heap.size := ⟨_, rfl⟩
      rw [← hg9] at f2 ⊢
      have F9 := Lib.hid f2
      have Ng9 : Hid (wr.heap.size ≤ g9) := by show _ ≤ _; rw [hg9]; exact Nat.le_refl _
      have SS := Lib.hid (SS.out.below f4)
      have RR := Lib.hid (RR.out.below f4)
      have F3 := Lib.hid (row_below F3.out f4)
      have BBn := Lib.hid (BB.out.trans (f4.mono BB.out.size))
      clear f2 f3 f4 hqy0 ey0 hg9
      have G9 : Hid (w.heap.size ≤ g9) := Nat.le_trans BB.out.size Ng9.out
      clear Ng9
      go_wp2_with fail
      refine (setclone_any y0 g6 m s SS.out).mono ?_
      rintro e y1 ⟨gc, mc, rfl, sc, gcl, mcl, bb⟩
      have HG : Hid (PyG w y1 p g3 x g9 g6 m s gc mc s g7 v L) := by
        have l6 : g6 < y0.heap.size := (Array.getElem?_eq_some_iff.1 SS.out.box).1
        refine ⟨⟨SS.out.below bb, sc, by omega, fun e => by have := SS.out.map.lt gc e; omega, fun e => by have := mcl g6 e; omega, fun q e e' => by have := SS.out.map.lt q e; have := mcl q e'; omega⟩, RR.out.below bb, HI.out, G6.out, G7.out, G9.out, row_below F3.out bb, row_below F9.out bb, BBn.out.trans (bb.mono BBn.out.size)⟩
      obtain ⟨lc, hlc⟩ : ∃ lc, lc = s := ⟨_, rfl⟩
      rw [show PyG w y1 p g3 x g9 g6 m s gc mc s g7 v L = PyG w y1 p g3 x g9 g6 m s gc mc lc g7 v L by rw [hlc]] at HG
      obtain ⟨was, hwas⟩ : ∃ was, was = lc.length := ⟨_, rfl⟩
      have WAS : Hid ((was : Int) = (lc.length : Int)) := by show _ = _; rw [hwas]
      clear sc gcl mcl bb SS RR F3 F9 BBn hlc hwas
      go_wp2_with fail
      refine (setlen_k y1 gc mc lc HG.out.t.r (was : Int) WAS.out).mono ?_
      rintro e y2 ⟨rfl, bb⟩
      have HG := Lib.hid (HG.out.below bb)
      clear bb
      obtain ⟨sp2, cap2, rfl⟩ := HG.out.r.at.shape
      rw [List.length_map] at HG
      obtain ⟨nL, hnL⟩ : ∃ nL, nL = L.length := ⟨_, rfl⟩
      rw [← hnL] at HG
      have NL := Lib.hid hnL
      obtain ⟨kd, dn, dp, dc⟩ := x
      have ck : y2.cell? ⟨g9, 0, none⟩ = some (.int .i64 kd) := do_kind (range_of_box HG.out.f9)
      have cx : y2.cell? ⟨g7, 0, none⟩ = some (.slice sp2 nL cap2) := HG.out.r.cell
      clear hnL
      go_upto_region 14 with fail
      go_cut [55] from 31 to 161 (fun v55 wx => ∃ q : Bool, v55 = .bool q ∧ y2 = wx ∧ (q = true → 0 < nL))
      case first =>
        by_cases k2 : 2 < kd
        · by_cases z0 : 0 < nL
          · have z1 : (0 : Int) < (nL : Int) := by omega
            go_wp2_with fail
            go_meet
            case rel => exact ⟨true, rfl, rfl, fun _ => z0⟩
          · have z1 : ¬ (0 : Int) < (nL : Int) := by omega
            go_wp2_with fail
            go_meet
            case rel => exact ⟨false, rfl, rfl, fun h => by cases h⟩
        · go_wp2_with fail
          go_meet
          case rel => exact ⟨false, rfl, rfl, fun h => by cases h⟩
      case rest =>
        obtain ⟨q, rfl, rfl, hq⟩ := hcut
        have HQ := Lib.hid hq
        clear hq ck cx
        go_upto_if 55 with fail
        go_cut [] from 31 to 161 (fun wx => ∃ p2, PtOk p2 ∧ PyG w wx p g3 ⟨kd, dn, p2, dc⟩ g9 g6 m s gc mc lc g7 (.slice sp2 nL cap2) L)
        case first =>
          cases q with
          | false =>
            go_wp2_with fail
            go_meet
            case rel => exact ⟨dp, OX.out.2.2.1, HG.out⟩
          | true =>
            have n0 : 0 < nL := HQ.out rfl
            obtain ⟨r, hr, hrn⟩ := numb_nat dn nL n0
            have NB : Hid (∀ W, Calls Tryd.prog 10 #[.int .i64 dn, .int .i64 (nL : Int)] W fun e w' => e = .returned (.int .i64 (r : Int)) ∧ W = w') := fun W => by rw [← hr]; exact numb_any dn nL (by omega) (by have h1 := NL.out; have h2 := PL.out.len; have h3 := SLE.out; omega) OX.out.2.1 W
            obtain ⟨b2, o2, rfl, hg⟩ := HG.out.r.at.get n0
            obtain ⟨z, hz⟩ : ∃ z, L[r]? = some z := ⟨_, List.getElem?_eq_getElem (by rw [← NL.out]; exact hrn)⟩
            have OZ := Lib.hid (HG.out.ok PL.out.pm z (List.mem_of_getElem? hz))
            have LZ : Hid ((ptC z.at_).length = 33) := ptC_length OZ.out.1
            have LDP : Hid ((ptC dp).length = 33) := ptC_length OX.out.2.2.1
            have RZ : Hid (∀ W, RefAt W w.heap.size g7 (.slice (some ⟨b2, o2, none⟩) nL cap2) L → W.rangeAt b2 (o2 + r * 68) (ptC z.at_)) := fun W hW => by
              obtain ⟨b', o', e', hg'⟩ := hW.at.get n0
              cases e'
              exact sp_pt (hg' r (spL z) (by rw [List.getElem?_map, hz]; rfl))
            have c15 : y2.drew.cell? ⟨g7, 0, none⟩ = some (.slice (some ⟨b2, o2, none⟩) nL cap2) ∧ y2.drew.cell? ⟨g9, 1, none⟩ = some (.int .i64 dn) ∧ y2.drew.rangeAt b2 (o2 + r * 68) (ptC z.at_) := by
              have hd := HG.out.below (Below.drew (Below.refl _ _))
              exact ⟨hd.r.cell, by have h := do_n (range_of_box hd.f9); rwa [Nat.zero_add] at h, RZ.out _ hd.r⟩
            have p2_ : 0 ≤ (r : Int) := by omega
            have p3_ : (r : Int) < (nL : Int) := by omega
            clear hg hr hz hrn
            go_upto_region 15 with fail
            refine wp_region_held_drew (S := (fun w' => w'.cell? ⟨g7, 0, none⟩ = some (.slice (some ⟨b2, o2, none⟩) nL cap2) ∧ w'.cell? ⟨g9, 1, none⟩ = some (.int .i64 dn) ∧ w'.rangeAt b2 (o2 + r * 68) (ptC z.at_))) (by kernel_rfl) (⟨c15.1, c15.2.1, c15.2.2⟩) (fun hHeld => ?_)
            have HG := Lib.hid (HG.out.below (Below.drew (Below.refl _ _)))
            generalize hwd : y2.drew = wd at HG hHeld ⊢
            clear hwd
            refine held_take (i := 0) (v := (.pointer (some ⟨g7, 0, none⟩))) rfl (by kernel_rfl) (by kernel_rfl) (by kernel_rfl) (fun _ _ _ h => h) (Or.inl ⟨by rfl, fun w' _ => by kernel_rfl⟩) hHeld ?_
            go_frame
            refine held_take (i := 1) (v := (.pointer (some ⟨g7, 0, none⟩))) rfl (by kernel_rfl) (by kernel_rfl) (by kernel_rfl) (fun _ _ _ h => h) (Or.inl ⟨by rfl, fun w' _ => by kernel_rfl⟩) hHeld ?_
            go_frame
            refine held_take (i := 2) (v := (.pointer (some ⟨g7, 0, none⟩))) rfl (by kernel_rfl) (by kernel_rfl) (by kernel_rfl) (fun _ _ _ h => h) (Or.inl ⟨by rfl, fun w' _ => by kernel_rfl⟩) hHeld ?_
            go_frame
            refine held_take (i := 3) (v := (.slice (some ⟨b2, o2, none⟩) nL cap2)) rfl (by kernel_rfl) (by kernel_rfl) (by kernel_rfl) (fun _ _ _ h => h) (yieldsIf_load_one (by rfl) 34 (.tmp 58) rfl g7 (0) rfl _ _ (fun w' hw' => hw'.1) Tryd.underlying34 rfl) hHeld ?_
            go_frame
            refine held_take (i := 4) (v := (.pointer (some ⟨g9, 1, none⟩))) rfl (by kernel_rfl) (by kernel_rfl) (by kernel_rfl) (fun _ _ _ h => h) (Or.inl ⟨by rfl, fun w' _ => by kernel_rfl⟩) hHeld ?_
            go_frame
            refine held_take (i := 5) (v := (.int .i64 dn)) rfl (by kernel_rfl) (by kernel_rfl) (by kernel_rfl) (fun _ _ _ h => h) (yieldsIf_load_one (by rfl) 3 (.tmp 60) rfl g9 (1) rfl _ _ (fun w' hw' => hw'.2.1) Tryd.underlying3 rfl) hHeld ?_
            go_frame
            refine held_take (i := 6) (v := (.pointer (some ⟨g7, 0, none⟩))) rfl (by kernel_rfl) (by kernel_rfl) (by kernel_rfl) (fun _ _ _ h => h) (Or.inl ⟨by rfl, fun w' _ => by kernel_rfl⟩) hHeld ?_
            go_frame
            refine held_take (i := 7) (v := (.pointer (some ⟨g7, 0, none⟩))) rfl (by kernel_rfl) (by kernel_rfl) (by kernel_rfl) (fun _ _ _ h => h) (Or.inl ⟨by rfl, fun w' _ => by kernel_rfl⟩) hHeld ?_
            go_frame
            refine held_take (i := 8) (v := (.pointer (some ⟨g7, 0, none⟩))) rfl (by kernel_rfl) (by kernel_rfl) (by kernel_rfl) (fun _ _ _ h => h) (Or.inl ⟨by rfl, fun w' _ => by kernel_rfl⟩) hHeld ?_
            go_frame
            refine held_take (i := 9) (v := (.slice (some ⟨b2, o2, none⟩) nL cap2)) rfl (by kernel_rfl) (by kernel_rfl) (by kernel_rfl) (fun _ _ _ h => h) (yieldsIf_load_one (by rfl) 34 (.tmp 64) rfl g7 (0) rfl _ _ (fun w' hw' => hw'.1) Tryd.underlying34 rfl) hHeld ?_
            go_frame
            refine held_take (i := 10) (v := (.int .i64 (nL : Int))) rfl (by kernel_rfl) (by kernel_rfl) (by kernel_rfl) (fun _ _ _ h => h) (Or.inl ⟨by rfl, fun w' _ => by go_simp⟩) hHeld ?_
            go_frame
            refine wpAnyH_ready (rs := [11]) (by kernel_rfl) (by simp) (held_cons rfl (fun K hK => ?_) AllReadyH.nil)
            go_simp
            refine (NB.out _).mono ?_
            rintro e v1 ⟨rfl, hw⟩
            obtain rfl := hw
            have bb := True.intro
            have hv1 := hHeld
            clear bb hHeld
            go_wp2_with fail
            refine hK.out _ _ hv1 (fun hHeld => ?_)
            clear hK K hv1
            refine held_take (i := 12) (v := (.pointer (some ⟨b2, o2 + r * 68, none⟩))) rfl (by kernel_rfl) (by kernel_rfl) (by kernel_rfl) (fun _ _ _ h => h) (Or.inl ⟨by rfl, fun w' _ => by go_simp⟩) hHeld ?_
            go_frame
            refine held_take (i := 13) (v := (.pointer (some ⟨b2, o2 + r * 68, none⟩))) rfl (by kernel_rfl) (by kernel_rfl) (by kernel_rfl) (fun _ _ _ h => h) (Or.inl ⟨by rfl, fun w' _ => by kernel_rfl⟩) hHeld ?_
            go_frame
            refine held_take (i := 14) (v := (.agg (ptC z.at_).toArray)) rfl (by kernel_rfl) (by kernel_rfl) (by kernel_rfl) (fun _ _ _ h => h) (Sha.yieldsIf_load_mid (by rfl) 27 (.tmp 69) rfl b2 (o2 + r * 68) rfl (ptC z.at_) _ (fun w' hw' => hw'.2.2) Tryd.underlying27 rfl (by rw [LZ.out]; kernel_rfl)) hHeld ?_
            go_frame
            refine held_take (i := 15) (v := (.pointer (some ⟨g9, 2, none⟩))) rfl (by kernel_rfl) (by kernel_rfl) (by kernel_rfl) (fun _ _ _ h => h) (Or.inl ⟨by rfl, fun w' _ => by kernel_rfl⟩) hHeld ?_
            go_frame
            refine wpAnyH_ready (rs := [16]) (by kernel_rfl) (by simp) (held_cons rfl (fun K hK => ?_) AllReadyH.nil)
            rw [if_pos (by rfl)]
            refine wp_store_part 27 (.tmp 71) (.tmp 70) rfl g9 2 [.int .i64 kd, .int .i64 dn] (ptC dp) (mnL dc) (ptC z.at_) 41 (.agg (ptC z.at_).toArray) rfl rfl rfl rfl (by rw [LZ.out, LDP.out]) HG.out.f9 (by rw [LZ.out]; kernel_rfl) (ptC_one _) ?_
            intro v2 q1 q2
            have HG : Hid (PyG w v2 p g3 ⟨kd, dn, z.at_, dc⟩ g9 g6 m s gc mc lc g7 (.slice (some ⟨b2, o2, none⟩) nL cap2) L) := HG.out.store q2 q1
            have hv2 : v2.cell? ⟨g7, 0, none⟩ = some (.slice (some ⟨b2, o2, none⟩) nL cap2) ∧ v2.cell? ⟨g9, 1, none⟩ = some (.int .i64 dn) ∧ v2.rangeAt b2 (o2 + r * 68) (ptC z.at_) := ⟨HG.out.r.cell, by have h := do_n (range_of_box HG.out.f9); rwa [Nat.zero_add] at h, RZ.out v2 HG.out.r⟩
            clear q1 q2 hHeld
            go_frame
            refine hK.out _ _ hv2 (fun hHeld => ?_)
            clear hK K hv2
            refine wpAnyH_done (by kernel_rfl) ?_ _
            clear hHeld
            go_wp2_with fail
            go_meet
            case rel => exact ⟨z.at_, OZ.out.1, HG.out⟩
        case rest =>
          obtain ⟨p2, hp2, hG⟩ := hcut
          rename World => y4
          have HP2 := Lib.hid hp2
          have HG := Lib.hid hG
          have LP2 : Hid ((ptC p2).length = 33) := ptC_length hp2
          have ZP2 : Hid ((ptC p2).toArray.size = 33) := ptC_size hp2
          have LDC : Hid ((mnL dc).length = 35) := mnL_length OX.out.2.2.2
          clear hp2 hG
          have ck : y4.cell? ⟨g9, 0, none⟩ = some (.int .i64 kd) := do_kind (range_of_box HG.out.f9)
          go_upto_region 16 with fail
          go_cut [79] from 31 to 161 (fun v79 wx => ∃ q : Bool, v79 = .bool q ∧ y4 = wx)
          case first =>
            by_cases k1 : kd = 1
            · have k1' : (kd == 1) = true := by rw [beq_iff_eq]; exact k1
              go_wp2_with fail
              go_meet
              case rel => exact ⟨true, rfl, rfl⟩
            · have k1' : (kd == 1) = false := by rw [beq_eq_false_iff_ne]; exact k1
              go_wp2_with fail
              go_meet
              case rel => exact ⟨_, rfl, rfl⟩
          case rest =>
            obtain ⟨q2, rfl, rfl⟩ := hcut
            clear ck
            go_upto_if 79 with fail
            go_cut [] from 31 to 161 (fun wx => ∃ m2 s2 v2 L2, PyL s2 L2 ∧ s2.length ≤ k + 1 ∧ PyG w wx p g3 ⟨kd, dn, p2, dc⟩ g9 g6 m2 s2 gc mc lc g7 v2 L2)
            case first =>
              have OL : Hid (∀ x ∈ L, SpOk x) := HG.out.ok PL.out.pm
              have NLB : Hid (L.length ≤ 1048576) := by show _ ≤ _; have h2 := PL.out.len; have h3 := SLE.out; omega
              cases q2 with
              | true =>
                obtain ⟨rc, hrc⟩ : ∃ rc, rc = addR s p2 dc := ⟨_, rfl⟩
                have RCB : Hid (rc ≤ 25) := by show _ ≤ _; rw [hrc]; exact addR_le _ _ _
                have CA : Hid (∀ W v3 L3, PyG w W p g3 ⟨kd, dn, p2, dc⟩ g9 g6 m s gc mc lc g7 v3 L3 → EC W E → Calls Tryd.prog 12 #[.pointer (some ⟨g6, 0, none⟩), .agg (ptC p2).toArray, .agg (mnL dc).toArray] W fun e w' => e = .returned (errV E rc) ∧ ∃ m', PyG w w' p g3 ⟨kd, dn, p2, dc⟩ g9 g6 m' (addL s p2 dc) gc mc lc g7 v3 L3) := fun W v3 L3 h hE => by rw [hrc]; exact py_add h E hE p2 dc HP2.out OX.out.2.2.2
                have CR : Hid (∀ W m3 s3, PyG w W p g3 ⟨kd, dn, p2, dc⟩ g9 g6 m3 s3 gc mc lc g7 (.slice sp2 nL cap2) L → Calls Tryd.prog 13 #[.pointer (some ⟨g7, 0, none⟩), .agg (ptC p2).toArray, .agg (mnL dc).toArray] W fun e w' => e = .returned (.int .i64 (numE rc)) ∧ ∃ v' L', L'.Perm (addL L p2 dc) ∧ SortedC L' ∧ PyG w w' p g3 ⟨kd, dn, p2, dc⟩ g9 g6 m3 s3 gc mc lc g7 v' L') := fun W m3 s3 h => by rw [hrc, ← PL.out.addR]; exact py_radd h PL.out.so OL.out NLB.out p2 dc HP2.out OX.out.2.2.2
                clear hrc
                go_upto_region 17 with fail
                refine wp_region_held_drew (S := (fun w' => w'.heap[g9]? = some (.cells (doL ⟨kd, dn, p2, dc⟩).toArray 41 (0, 0)))) (by kernel_rfl) (HG.out.f9) (fun hHeld => ?_)
                have HG := Lib.hid (HG.out.below (Below.drew (Below.refl _ _)))
                generalize hwd : y4.drew = wd at HG hHeld ⊢
                clear hwd
                refine held_take (i := 0) (v := (.pointer (some ⟨g6, 0, none⟩))) rfl (by kernel_rfl) (by kernel_rfl) (by kernel_rfl) (fun _ _ _ h => h) (Or.inl ⟨by rfl, fun w' _ => by kernel_rfl⟩) hHeld ?_
                go_frame
                refine held_take (i := 1) (v := (.pointer (some ⟨g9, 2, none⟩))) rfl (by kernel_rfl) (by kernel_rfl) (by kernel_rfl) (fun _ _ _ h => h) (Or.inl ⟨by rfl, fun w' _ => by kernel_rfl⟩) hHeld ?_
                go_frame
                refine held_take (i := 2) (v := (.agg (ptC p2).toArray)) rfl (by kernel_rfl) (by kernel_rfl) (by kernel_rfl) (fun _ _ _ h => h) (Sha.yieldsIf_load_mid (by rfl) 27 (.tmp 81) rfl g9 (2) rfl (ptC p2) _ (fun w' hw' => by have h := do_p (range_of_box hw'); rwa [Nat.zero_add] at h) Tryd.underlying27 rfl (by rw [LP2.out]; kernel_rfl)) hHeld ?_
                go_frame
                refine held_take (i := 3) (v := (.pointer (some ⟨g9, 35, none⟩))) rfl (by kernel_rfl) (by kernel_rfl) (by kernel_rfl) (fun _ _ _ h => h) (Or.inl ⟨by rfl, fun w' _ => by kernel_rfl⟩) hHeld ?_
                go_frame
                refine held_take (i := 4) (v := (.agg (mnL dc).toArray)) rfl (by kernel_rfl) (by kernel_rfl) (by kernel_rfl) (fun _ _ _ h => h) (Sha.yieldsIf_load_mid (by rfl) 39 (.tmp 83) rfl g9 (35) rfl (mnL dc) _ (fun w' hw' => by have h := do_c (x := ⟨kd, dn, p2, dc⟩) HP2.out (range_of_box hw'); rwa [Nat.zero_add] at h) Tryd.underlying39 rfl (by rw [LDC.out]; kernel_rfl)) hHeld ?_
                go_frame
                refine held_take (i := 6) (v := (.pointer (some ⟨g7, 0, none⟩))) rfl (by kernel_rfl) (by kernel_rfl) (by kernel_rfl) (fun _ _ _ h => h) (Or.inl ⟨by rfl, fun w' _ => by kernel_rfl⟩) hHeld ?_
                go_frame
                refine held_take (i := 7) (v := (.pointer (some ⟨g9, 2, none⟩))) rfl (by kernel_rfl) (by kernel_rfl) (by kernel_rfl) (fun _ _ _ h => h) (Or.inl ⟨by rfl, fun w' _ => by kernel_rfl⟩) hHeld ?_
                go_frame
                refine held_take (i := 8) (v := (.agg (ptC p2).toArray)) rfl (by kernel_rfl) (by kernel_rfl) (by kernel_rfl) (fun _ _ _ h => h) (Sha.yieldsIf_load_mid (by rfl) 27 (.tmp 87) rfl g9 (2) rfl (ptC p2) _ (fun w' hw' => by have h := do_p (range_of_box hw'); rwa [Nat.zero_add] at h) Tryd.underlying27 rfl (by rw [LP2.out]; kernel_rfl)) hHeld ?_
                go_frame
                refine held_take (i := 9) (v := (.pointer (some ⟨g9, 35, none⟩))) rfl (by kernel_rfl) (by kernel_rfl) (by kernel_rfl) (fun _ _ _ h => h) (Or.inl ⟨by rfl, fun w' _ => by kernel_rfl⟩) hHeld ?_
                go_frame
                refine held_take (i := 10) (v := (.agg (mnL dc).toArray)) rfl (by kernel_rfl) (by kernel_rfl) (by kernel_rfl) (fun _ _ _ h => h) (Sha.yieldsIf_load_mid (by rfl) 39 (.tmp 89) rfl g9 (35) rfl (mnL dc) _ (fun w' hw' => by have h := do_c (x := ⟨kd, dn, p2, dc⟩) HP2.out (range_of_box hw'); rwa [Nat.zero_add] at h) Tryd.underlying39 rfl (by rw [LDC.out]; kernel_rfl)) hHeld ?_
                go_frame
                refine wpAnyH_ready (rs := [5]) (by kernel_rfl) (by simp) (held_cons rfl (fun K hK => ?_) AllReadyH.nil)
                go_simp
                refine (CA.out _ _ _ HG.out (EC.of (HE.out.below HG.out.bel))).mono ?_
                rintro e v1 ⟨rfl, m2, hG⟩
                have HG := Lib.hid hG
                clear hG
                have bb := True.intro
                have hv1 := HG.out.f9
                clear bb hHeld
                go_wp2_with fail
                refine hK.out _ _ hv1 (fun hHeld => ?_)
                clear hK K hv1
                refine wpAnyH_ready (rs := [11]) (by kernel_rfl) (by simp) (held_cons rfl (fun K hK => ?_) AllReadyH.nil)
                go_simp
                refine (CR.out _ _ _ HG.out).mono ?_
                rintro e v2 ⟨rfl, v3, L2, hp3, hs3, hG⟩
                have HG := Lib.hid hG
                have PL2 := Lib.hid (PL.out.add p2 dc hp3 hs3)
                clear hG hp3 hs3
                have bb := True.intro
                have hv2 := HG.out.f9
                clear bb hHeld
                go_wp2_with fail
                refine hK.out _ _ hv2 (fun hHeld => ?_)
                clear hK K hv2
                refine wpAnyH_ready (rs := [12]) (by kernel_rfl) (by simp) (held_cons rfl (fun K hK => ?_) AllReadyH.nil)
                go_simp
                refine (is_any E rc _ true (by simp) _ (HE.out.below HG.out.bel) RCB.out).mono ?_
                rintro e v3 ⟨rfl, bb⟩
                have HG := Lib.hid (HG.out.below bb)
                have hv3 := HG.out.f9
                clear bb hHeld
                go_wp2_with fail
                refine hK.out _ _ hv3 (fun hHeld => ?_)
                clear hK K hv3
                refine held_take (i := 13) (v := (.bool false)) rfl (by kernel_rfl) (by kernel_rfl) (by kernel_rfl) (fun _ _ _ h => h) (Or.inl ⟨by rfl, fun w' _ => by kernel_rfl⟩) hHeld ?_
                go_frame
                refine wpAnyH_done (by kernel_rfl) ?_ _
                clear hHeld
                go_wp2_with fail
                go_meet
                case rel => exact ⟨_, _, _, _, PL2.out, (by have h1 := addL_len s p2 dc; have h2 := SLE.out; omega), HG.out⟩
              | false =>
                obtain ⟨c0, hc0⟩ : ∃ c0, c0 = (getC s p2).getD mnZ := ⟨_, rfl⟩
                have OC0 : Hid (MnOk c0) := by show MnOk c0; rw [hc0]; exact getD_ok HG.out.t.l.map.ok p2
                have ZC0 : Hid ((mnL c0).toArray.size = 35) := mnL_size OC0.out
                obtain ⟨rc, hrc⟩ : ∃ rc, rc = (if (getC s p2).isSome then 0 else 13) := ⟨_, rfl⟩
                have RCB : Hid (rc ≤ 25) := by show _ ≤ _; rw [hrc]; split <;> omega
                have CA := py_spend HG.out E (EC.of (HE.out.below HG.out.bel)) p2 HP2.out
                rw [← hc0, ← hrc] at CA
                have CA := Lib.hid CA
                have CR : Hid (∀ W m3 s3, PyG w W p g3 ⟨kd, dn, p2, dc⟩ g9 g6 m3 s3 gc mc lc g7 (.slice sp2 nL cap2) L → Calls Tryd.prog 15 #[.pointer (some ⟨g7, 0, none⟩), .agg (ptC p2).toArray] W fun e w' => e = .returned (.tuple #[.agg (mnL c0).toArray, .int .i64 (numE rc)]) ∧ ∃ v', PyG w w' p g3 ⟨kd, dn, p2, dc⟩ g9 g6 m3 s3 gc mc lc g7 v' (delC L p2) ∧ Kps (fun j => j ≠ g7) W w') := fun W m3 s3 h => by rw [hc0, hrc, ← PL.out.get]; exact py_rspend h PL.out.so OL.out NLB.out p2 HP2.out
                clear hrc hc0
                have RP : Hid (∀ W : World, W.heap[g9]? = some (.cells (doL ⟨kd, dn, p2, dc⟩).toArray 41 (0, 0)) → W.rangeAt g9 2 (ptC p2)) := fun W hW => by have h := do_p (range_of_box hW); rwa [Nat.zero_add] at h
                go_wp2_with ((with_reducible show wpList _ _ _ _ _ _); (refine wpList_load_mid rfl 27 (.tmp 96) rfl g9 2 rfl (ptC p2) _ (Lib.hid (RP.out _ HG.out.f9)).out Tryd.underlying27 rfl (by rw [LP2.out]; kernel_rfl) ?_; go_frame))
                refine CA.out.mono ?_
                rintro e y5 ⟨rfl, hG⟩
                have HG := Lib.hid hG
                clear hG CA
                go_upto_region 20 with ((with_reducible show wpList _ _ _ _ _ _); (refine wpList_store_row rfl 39 (.tmp 12) (.tmp 99) rfl y5.heap.size (mnL c0).toArray rfl rfl 39 _ (heap_alloc_new _ _) (by rw [ZC0.out]; kernel_rfl) (by rw [ZC0.out]; rfl) (mnL_all _) ?_; go_frame))
                obtain ⟨_, f2, f3, f4⟩ := fill_setup (Below.refl y5.heap.size y5) (mnL mnZ).toArray (mnL c0).toArray 39
                generalize hqy6 : World.setRow _ _ _ = y6
                have ey6 : World.setRow (y5.alloc (.cells (mnL mnZ).toArray 39)) y5.heap.size (mnL c0).toArray = y6 := hqy6
                rw [ey6] at f2 f3 f4
                obtain ⟨g12, hg12⟩ : ∃ g12, g12 = y5.heap.size := ⟨_, rfl⟩
                rw [← hg12] at f2 ⊢
                have F12 := Lib.hid f2
                have Ng12 : Hid (y5.heap.size ≤ g12) := by show _ ≤ _; rw [hg12]; exact Nat.le_refl _
                have HG := Lib.hid (HG.out.below f4)
                clear f2 f3 f4 hqy6 ey6 hg12
                clear Ng12
                go_wp2_with ((with_reducible show wpList _ _ _ _ _ _); (refine wpList_load_mid rfl 27 (.tmp 103) rfl g9 2 rfl (ptC p2) _ (Lib.hid (RP.out _ HG.out.f9)).out Tryd.underlying27 rfl (by rw [LP2.out]; kernel_rfl) ?_; go_frame))
                refine (CR.out _ _ _ HG.out).mono ?_
                rintro e y7 ⟨rfl, v3, hG, hk⟩
                have F12' : Hid (y7.heap[g12]? = some (.cells (mnL c0).toArray 39 (0, 0))) := row_kps F12.out hk (HG.out.r.boxne (by decide) F12.out)
                have HG := Lib.hid hG
                clear hG CR F12 hk
                go_upto_region 21 with ((with_reducible show wpList _ _ _ _ _ _); (refine wpList_store_row rfl 39 (.tmp 14) (.tmp 106) rfl y7.heap.size (mnL c0).toArray rfl rfl 39 _ (heap_alloc_new _ _) (by rw [ZC0.out]; kernel_rfl) (by rw [ZC0.out]; rfl) (mnL_all _) ?_; go_frame))
                obtain ⟨_, f2, f3, f4⟩ := fill_setup (Below.refl y7.heap.size y7) (mnL mnZ).toArray (mnL c0).toArray 39
                generalize hqy8 : World.setRow _ _ _ = y8
                have ey8 : World.setRow (y7.alloc (.cells (mnL mnZ).toArray 39)) y7.heap.size (mnL c0).toArray = y8 := hqy8
                rw [ey8] at f2 f3 f4
                obtain ⟨g14, hg14⟩ : ∃ g14, g14 = y7.heap.size := ⟨_, rfl⟩
                rw [← hg14] at f2 ⊢
                have F14 := Lib.hid f2
                have Ng14 : Hid (y7.heap.size ≤ g14) := by show _ ≤ _; rw [hg14]; exact Nat.le_refl _
                have HG := Lib.hid (HG.out.below f4)
                have F12' := Lib.hid (row_below F12'.out f4)
                clear f2 f3 f4 hqy8 ey8 hg14
                clear Ng14
                go_wp2_with ((with_reducible show wpList _ _ _ _ _ _); first | (refine wpList_load_row rfl 39 (.tmp 12) rfl g12 rfl 39 (mnL c0).toArray (0, 0) _ F12'.out Tryd.underlying39 rfl (by rw [ZC0.out]; kernel_rfl) ?_; go_frame) | (refine wpList_load_row rfl 39 (.tmp 14) rfl g14 rfl 39 (mnL c0).toArray (0, 0) _ F14.out Tryd.underlying39 rfl (by rw [ZC0.out]; kernel_rfl) ?_; go_frame))
                refine (samemn_true c0 OC0.out _).mono ?_
                rintro e y9 ⟨rfl, bb⟩
                have HG := Lib.hid (HG.out.below bb)
                clear bb
                go_wp2_with fail
                refine (is_any E rc _ true (by simp) _ (HE.out.below HG.out.bel) RCB.out).mono ?_
                rintro e ya ⟨rfl, bb⟩
                have HG := Lib.hid (HG.out.below bb)
                clear bb
                go_wp2_with fail
                go_meet
                case rel => exact ⟨_, _, _, _, PL.out.del p2, (by have h1 := delC_le s p2; have h2 := SLE.out; omega), HG.out⟩
            case rest =>
              obtain ⟨m2, s2, v2, L2, hpl, hsl, hG⟩ := hcut
              rename World => z0
              clear PL SLE
              have PL := Lib.hid hpl
              have SLE := Lib.hid hsl
              have HG := Lib.hid hG
              obtain ⟨sp2, cap2, rfl⟩ := hG.r.at.shape
              rw [List.length_map] at HG
              obtain ⟨nL, hnL⟩ : ∃ nL, nL = L2.length := ⟨_, rfl⟩
              rw [← hnL] at HG
              have NS : Hid ((nL : Int) = (s2.length : Int)) := by show _ = _; rw [hnL, hpl.len]
              have OL : Hid (∀ x ∈ L2, SpOk x) := hG.ok hpl.pm
              have NLB : Hid (L2.length ≤ 1048576) := by show _ ≤ _; have h2 := hpl.len; omega
              obtain ⟨c0, hc0⟩ : ∃ c0, c0 = (getC s2 p).getD mnZ := ⟨_, rfl⟩
              have C0 : Hid (MnOk c0) := by show MnOk c0; rw [hc0]; exact getD_ok hG.t.l.map.ok p
              have ZC0 : Hid ((mnL c0).toArray.size = 35) := mnL_size C0.out
              obtain ⟨q3, hq3⟩ : ∃ q3, q3 = (getC s2 p).isSome := ⟨_, rfl⟩
              have CG := setget_any z0 g6 m2 s2 p HG.out.t.l HP.out
              rw [← hc0, ← hq3] at CG
              have CG := Lib.hid CG
              have CR : Hid (∀ W m3 s3, PyG w W p g3 ⟨kd, dn, p2, dc⟩ g9 g6 m3 s3 gc mc lc g7 (.slice sp2 nL cap2) L2 → Calls Tryd.prog 18 #[.pointer (some ⟨g7, 0, none⟩), .agg (ptC p).toArray] W fun e w' => e = .returned (.tuple #[.agg (mnL c0).toArray, .bool q3]) ∧ Below W.heap.size W w') := fun W m3 s3 h => by rw [hc0, hq3, ← PL.out.get]; exact rget_any W w.heap.size g7 _ L2 p h.r PL.out.so OL.out HP.out NLB.out
              obtain ⟨tt, htt⟩ : ∃ tt, tt = worthC s2 % 18446744073709551616 := ⟨_, rfl⟩
              have TT := Lib.hid htt
              have TL : Hid (tt = worthC L2 % 18446744073709551616) := by show _ = _; rw [htt, worthC_perm hpl.pm]
              clear hpl hsl hG hnL hc0 hq3 htt
              go_wp2_with ((with_reducible show wpList _ _ _ _ _ _); (refine wpList_load_row rfl 27 (.tmp 3) rfl g3 rfl 27 (ptC p).toArray (0, 0) _ (Lib.hid HG.out.f3).out Tryd.underlying27 rfl (by rw [PSZ.out]; kernel_rfl) ?_; go_frame))
              refine CG.out.mono ?_
              rintro e z1 ⟨rfl, bb⟩
              have HG := Lib.hid (HG.out.below bb)
              clear bb CG
              go_upto_region 24 with ((with_reducible show wpList _ _ _ _ _ _); (refine wpList_store_row rfl 39 (.tmp 16) (.tmp 122) rfl z1.heap.size (mnL c0).toArray rfl rfl 39 _ (heap_alloc_new _ _) (by rw [ZC0.out]; kernel_rfl) (by rw [ZC0.out]; rfl) (mnL_all _) ?_; go_frame))
              obtain ⟨_, f2, f3, f4⟩ := fill_setup (Below.refl z1.heap.size z1) (mnL mnZ).toArray (mnL c0).toArray 39
              generalize hqz2 : World.setRow _ _ _ = z2
              have ez2 : World.setRow (z1.alloc (.cells (mnL mnZ).toArray 39)) z1.heap.size (mnL c0).toArray = z2 := hqz2
              rw [ez2] at f2 f3 f4
              obtain ⟨g16, hg16⟩ : ∃ g16, g16 = z1.heap.size := ⟨_, rfl⟩
              rw [← hg16] at f2 ⊢
              have F16 := Lib.hid f2
              have Ng16 : Hid (z1.heap.size ≤ g16) := by show _ ≤ _; rw [hg16]; exact Nat.le_refl _
              have HG := Lib.hid (HG.out.below f4)
              clear f2 f3 f4 hqz2 ez2 hg16
              clear Ng16
              go_wp2_with ((with_reducible show wpList _ _ _ _ _ _); (refine wpList_load_row rfl 27 (.tmp 3) rfl g3 rfl 27 (ptC p).toArray (0, 0) _ (Lib.hid HG.out.f3).out Tryd.underlying27 rfl (by rw [PSZ.out]; kernel_rfl) ?_; go_frame))
              refine (CR.out _ _ _ HG.out).mono ?_
              rintro e z3 ⟨rfl, bb⟩
              have HG := Lib.hid (HG.out.below bb)
              have F16 := Lib.hid (row_below F16.out bb)
              clear bb CR
              go_upto_region 25 with ((with_reducible show wpList _ _ _ _ _ _); (refine wpList_store_row rfl 39 (.tmp 18) (.tmp 128) rfl z3.heap.size (mnL c0).toArray rfl rfl 39 _ (heap_alloc_new _ _) (by rw [ZC0.out]; kernel_rfl) (by rw [ZC0.out]; rfl) (mnL_all _) ?_; go_frame))
              obtain ⟨_, f2, f3, f4⟩ := fill_setup (Below.refl z3.heap.size z3) (mnL mnZ).toArray (mnL c0).toArray 39
              generalize hqz4 : World.setRow _ _ _ = z4
              have ez4 : World.setRow (z3.alloc (.cells (mnL mnZ).toArray 39)) z3.heap.size (mnL c0).toArray = z4 := hqz4
              rw [ez4] at f2 f3 f4
              obtain ⟨g18, hg18⟩ : ∃ g18, g18 = z3.heap.size := ⟨_, rfl⟩
              rw [← hg18] at f2 ⊢
              have F18 := Lib.hid f2
              have Ng18 : Hid (z3.heap.size ≤ g18) := by show _ ≤ _; rw [hg18]; exact Nat.le_refl _
              have HG := Lib.hid (HG.out.below f4)
              have F16 := Lib.hid (row_below F16.out f4)
              clear f2 f3 f4 hqz4 ez4 hg18
              clear Ng18
              cases q3 with
              | true =>
                refine wp_region_held_drew (S := (fun w' => w'.heap[g16]? = some (.cells (mnL c0).toArray 39 (0, 0)) ∧ w'.heap[g18]? = some (.cells (mnL c0).toArray 39 (0, 0)) ∧ w'.cell? ⟨g7, 0, none⟩ = some (.slice sp2 nL cap2))) (by kernel_rfl) (⟨row_below F16.out (Below.drew (Below.refl _ _)), row_below F18.out (Below.drew (Below.refl _ _)), HG.out.r.cell⟩) (fun hHeld => ?_)
                have HG := Lib.hid (HG.out.below (Below.drew (Below.refl _ _)))
                generalize hwd : z4.drew = wd at HG hHeld ⊢
                clear hwd
                refine held_take (i := 0) (v := (.bool true)) rfl (by kernel_rfl) (by kernel_rfl) (by kernel_rfl) (fun _ _ _ h => h) (Or.inl ⟨by rfl, fun w' _ => by kernel_rfl⟩) hHeld ?_
                go_frame
                refine held_take (i := 1) (v := (.bool true)) rfl (by kernel_rfl) (by kernel_rfl) (by kernel_rfl) (fun _ _ _ h => h) (Or.inl ⟨by rfl, fun w' _ => by kernel_rfl⟩) hHeld ?_
                go_frame
                refine held_take (i := 2) (v := (.bool false)) rfl (by kernel_rfl) (by kernel_rfl) (by kernel_rfl) (fun _ _ _ h => h) (Or.inl ⟨by rfl, fun w' _ => by kernel_rfl⟩) hHeld ?_
                go_frame
                refine held_take (i := 3) (v := (.bool false)) rfl (by kernel_rfl) (by kernel_rfl) (by kernel_rfl) (fun _ _ _ h => h) (Or.inl ⟨by rfl, fun w' _ => by kernel_rfl⟩) hHeld ?_
                go_frame
                refine held_take (i := 4) (v := (.agg (mnL c0).toArray)) rfl (by kernel_rfl) (by kernel_rfl) (by kernel_rfl) (fun _ _ _ h => h) (yieldsIf_load_row (by rfl) 39 (.tmp 16) rfl g16 rfl 39 (mnL c0).toArray (0, 0) _ (fun w' hw' => hw'.1) Tryd.underlying39 rfl (by rw [ZC0.out]; kernel_rfl)) hHeld ?_
                go_frame
                refine held_take (i := 5) (v := (.agg (mnL c0).toArray)) rfl (by kernel_rfl) (by kernel_rfl) (by kernel_rfl) (fun _ _ _ h => h) (yieldsIf_load_row (by rfl) 39 (.tmp 18) rfl g18 rfl 39 (mnL c0).toArray (0, 0) _ (fun w' hw' => hw'.2.1) Tryd.underlying39 rfl (by rw [ZC0.out]; kernel_rfl)) hHeld ?_
                go_frame
                refine wpAnyH_ready (rs := [6]) (by kernel_rfl) (by simp) (held_cons rfl (fun K hK => ?_) AllReadyH.nil)
                rw [if_pos (by rfl)]
                go_simp
                refine (samemn_true c0 C0.out _).mono ?_
                rintro e v1 ⟨rfl, bb⟩
                have HG := Lib.hid (HG.out.below bb)
                have hv1 := (show _ ∧ _ ∧ _ from ⟨row_below hHeld.1 bb, row_below hHeld.2.1 bb, cell_below hHeld.2.2 bb⟩)
                clear bb hHeld
                go_wp2_with fail
                refine hK.out _ _ hv1 (fun hHeld => ?_)
                clear hK K hv1
                refine held_take (i := 7) (v := (.bool false)) rfl (by kernel_rfl) (by kernel_rfl) (by kernel_rfl) (fun _ _ _ h => h) (Or.inl ⟨by rfl, fun w' _ => by kernel_rfl⟩) hHeld ?_
                go_frame
                refine held_take (i := 8) (v := (.bool false)) rfl (by kernel_rfl) (by kernel_rfl) (by kernel_rfl) (fun _ _ _ h => h) (Or.inl ⟨by rfl, fun w' _ => by kernel_rfl⟩) hHeld ?_
                go_frame
                refine held_take (i := 9) (v := (.bool false)) rfl (by kernel_rfl) (by kernel_rfl) (by kernel_rfl) (fun _ _ _ h => h) (Or.inl ⟨by rfl, fun w' _ => by kernel_rfl⟩) hHeld ?_
                go_frame
                refine held_take (i := 10) (v := (.pointer (some ⟨g6, 0, none⟩))) rfl (by kernel_rfl) (by kernel_rfl) (by kernel_rfl) (fun _ _ _ h => h) (Or.inl ⟨by rfl, fun w' _ => by kernel_rfl⟩) hHeld ?_
                go_frame
                refine held_take (i := 12) (v := (.pointer (some ⟨g7, 0, none⟩))) rfl (by kernel_rfl) (by kernel_rfl) (by kernel_rfl) (fun _ _ _ h => h) (Or.inl ⟨by rfl, fun w' _ => by kernel_rfl⟩) hHeld ?_
                go_frame
                refine held_take (i := 13) (v := (.pointer (some ⟨g7, 0, none⟩))) rfl (by kernel_rfl) (by kernel_rfl) (by kernel_rfl) (fun _ _ _ h => h) (Or.inl ⟨by rfl, fun w' _ => by kernel_rfl⟩) hHeld ?_
                go_frame
                refine held_take (i := 14) (v := (.pointer (some ⟨g7, 0, none⟩))) rfl (by kernel_rfl) (by kernel_rfl) (by kernel_rfl) (fun _ _ _ h => h) (Or.inl ⟨by rfl, fun w' _ => by kernel_rfl⟩) hHeld ?_
                go_frame
                refine held_take (i := 15) (v := (.slice sp2 nL cap2)) rfl (by kernel_rfl) (by kernel_rfl) (by kernel_rfl) (fun _ _ _ h => h) (yieldsIf_load_one (by rfl) 34 (.tmp 144) rfl g7 (0) rfl _ _ (fun w' hw' => hw'.2.2) Tryd.underlying34 rfl) hHeld ?_
                go_frame
                refine held_take (i := 16) (v := (.int .i64 (nL : Int))) rfl (by kernel_rfl) (by kernel_rfl) (by kernel_rfl) (fun _ _ _ h => h) (Or.inl ⟨by rfl, fun w' _ => by go_simp⟩) hHeld ?_
                go_frame
                refine wpAnyH_ready (rs := [11]) (by kernel_rfl) (by simp) (held_cons rfl (fun K hK => ?_) AllReadyH.nil)
                rw [if_pos (by rfl)]
                go_simp
                refine (setlen_k _ g6 m2 s2 HG.out.t.l (nL : Int) NS.out).mono ?_
                rintro e v2 ⟨rfl, bb⟩
                have HG := Lib.hid (HG.out.below bb)
                have hv2 := (show _ ∧ _ ∧ _ from ⟨row_below hHeld.1 bb, row_below hHeld.2.1 bb, cell_below hHeld.2.2 bb⟩)
                clear bb hHeld
                go_wp2_with fail
                refine hK.out _ _ hv2 (fun hHeld => ?_)
                clear hK K hv2
                refine held_take (i := 17) (v := (.bool false)) rfl (by kernel_rfl) (by kernel_rfl) (by kernel_rfl) (fun _ _ _ h => h) (Or.inl ⟨by rfl, fun w' _ => by go_simp⟩) hHeld ?_
                go_frame
                refine held_take (i := 18) (v := (.bool false)) rfl (by kernel_rfl) (by kernel_rfl) (by kernel_rfl) (fun _ _ _ h => h) (Or.inl ⟨by rfl, fun w' _ => by kernel_rfl⟩) hHeld ?_
                go_frame
                refine held_take (i := 19) (v := (.bool false)) rfl (by kernel_rfl) (by kernel_rfl) (by kernel_rfl) (fun _ _ _ h => h) (Or.inl ⟨by rfl, fun w' _ => by kernel_rfl⟩) hHeld ?_
                go_frame
                refine held_take (i := 20) (v := (.pointer (some ⟨g6, 0, none⟩))) rfl (by kernel_rfl) (by kernel_rfl) (by kernel_rfl) (fun _ _ _ h => h) (Or.inl ⟨by rfl, fun w' _ => by kernel_rfl⟩) hHeld ?_
                go_frame
                refine held_take (i := 22) (v := (.pointer (some ⟨g7, 0, none⟩))) rfl (by kernel_rfl) (by kernel_rfl) (by kernel_rfl) (fun _ _ _ h => h) (Or.inl ⟨by rfl, fun w' _ => by kernel_rfl⟩) hHeld ?_
                go_frame
                refine wpAnyH_ready (rs := [21]) (by kernel_rfl) (by simp) (held_cons rfl (fun K hK => ?_) AllReadyH.nil)
                rw [if_pos (by rfl)]
                go_simp
                refine (settotal_any _ g6 m2 s2 HG.out.t.l tt TT.out).mono ?_
                rintro e v3 ⟨rfl, bb⟩
                have HG := Lib.hid (HG.out.below bb)
                have hv3 := (show _ ∧ _ ∧ _ from ⟨row_below hHeld.1 bb, row_below hHeld.2.1 bb, cell_below hHeld.2.2 bb⟩)
                clear bb hHeld
                go_wp2_with fail
                refine hK.out _ _ hv3 (fun hHeld => ?_)
                clear hK K hv3
                refine wpAnyH_ready (rs := [23]) (by kernel_rfl) (by simp) (held_cons rfl (fun K hK => ?_) AllReadyH.nil)
                rw [if_pos (by rfl)]
                go_simp
                refine (rtotal_any _ w.heap.size g7 _ L2 HG.out.r OL.out NLB.out tt TL.out).mono ?_
                rintro e v4 ⟨rfl, bb⟩
                have HG := Lib.hid (HG.out.below bb)
                have hv4 := (show _ ∧ _ ∧ _ from ⟨row_below hHeld.1 bb, row_below hHeld.2.1 bb, cell_below hHeld.2.2 bb⟩)
                clear bb hHeld
                go_wp2_with fail
                refine hK.out _ _ hv4 (fun hHeld => ?_)
                clear hK K hv4
                refine held_take (i := 24) (v := (.bool false)) rfl (by kernel_rfl) (by kernel_rfl) (by kernel_rfl) (fun _ _ _ h => h) (Or.inl ⟨by rfl, fun w' _ => by go_simp⟩) hHeld ?_
                go_frame
                refine held_take (i := 25) (v := (.bool false)) rfl (by kernel_rfl) (by kernel_rfl) (by kernel_rfl) (fun _ _ _ h => h) (Or.inl ⟨by rfl, fun w' _ => by kernel_rfl⟩) hHeld ?_
                go_frame
                refine held_take (i := 26) (v := (.bool false)) rfl (by kernel_rfl) (by kernel_rfl) (by kernel_rfl) (fun _ _ _ h => h) (Or.inl ⟨by rfl, fun w' _ => by kernel_rfl⟩) hHeld ?_
                go_frame
                refine held_take (i := 27) (v := (.pointer (some ⟨gc, 0, none⟩))) rfl (by kernel_rfl) (by kernel_rfl) (by kernel_rfl) (fun _ _ _ h => h) (Or.inl ⟨by rfl, fun w' _ => by kernel_rfl⟩) hHeld ?_
                go_frame
                refine held_take (i := 29) (v := (.int .i64 (was : Int))) rfl (by kernel_rfl) (by kernel_rfl) (by kernel_rfl) (fun _ _ _ h => h) (Or.inl ⟨by rfl, fun w' _ => by kernel_rfl⟩) hHeld ?_
                go_frame
                refine wpAnyH_ready (rs := [28]) (by kernel_rfl) (by simp) (held_cons rfl (fun K hK => ?_) AllReadyH.nil)
                rw [if_pos (by rfl)]
                go_simp
                refine (setlen_k _ gc mc lc HG.out.t.r (was : Int) WAS.out).mono ?_
                rintro e v5 ⟨rfl, bb⟩
                have HG := Lib.hid (HG.out.below bb)
                have hv5 := (show _ ∧ _ ∧ _ from ⟨row_below hHeld.1 bb, row_below hHeld.2.1 bb, cell_below hHeld.2.2 bb⟩)
                clear bb hHeld
                go_wp2_with fail
                refine hK.out _ _ hv5 (fun hHeld => ?_)
                clear hK K hv5
                refine held_take (i := 30) (v := (.bool false)) rfl (by kernel_rfl) (by kernel_rfl) (by kernel_rfl) (fun _ _ _ h => h) (Or.inl ⟨by rfl, fun w' _ => by go_simp⟩) hHeld ?_
                go_frame
                refine held_take (i := 31) (v := (.bool false)) rfl (by kernel_rfl) (by kernel_rfl) (by kernel_rfl) (fun _ _ _ h => h) (Or.inl ⟨by rfl, fun w' _ => by kernel_rfl⟩) hHeld ?_
                go_frame
                refine wpAnyH_done (by kernel_rfl) ?_ _
                clear hHeld
                go_wp2_with fail
                go_roundw
                case rel =>
                  exact ⟨k + 1, _, _, _, _, by omega, by go_num, HG.out.t.l, HG.out.r, PL.out, SLE.out, HG.out.hi, HG.out.f3, HG.out.bel⟩
                case measure => simp [intOf]; omega
              | false =>
                refine wp_region_held_drew (S := (fun w' => w'.heap[g16]? = some (.cells (mnL c0).toArray 39 (0, 0)) ∧ w'.heap[g18]? = some (.cells (mnL c0).toArray 39 (0, 0)) ∧ w'.cell? ⟨g7, 0, none⟩ = some (.slice sp2 nL cap2))) (by kernel_rfl) (⟨row_below F16.out (Below.drew (Below.refl _ _)), row_below F18.out (Below.drew (Below.refl _ _)), HG.out.r.cell⟩) (fun hHeld => ?_)
                have HG := Lib.hid (HG.out.below (Below.drew (Below.refl _ _)))
                generalize hwd : z4.drew = wd at HG hHeld ⊢
                clear hwd
                refine held_take (i := 0) (v := (.bool false)) rfl (by kernel_rfl) (by kernel_rfl) (by kernel_rfl) (fun _ _ _ h => h) (Or.inl ⟨by rfl, fun w' _ => by kernel_rfl⟩) hHeld ?_
                go_frame
                refine held_take (i := 1) (v := (.bool false)) rfl (by kernel_rfl) (by kernel_rfl) (by kernel_rfl) (fun _ _ _ h => h) (Or.inl ⟨by rfl, fun w' _ => by kernel_rfl⟩) hHeld ?_
                go_frame
                refine held_take (i := 2) (v := (.bool false)) rfl (by kernel_rfl) (by kernel_rfl) (by kernel_rfl) (fun _ _ _ h => h) (Or.inl ⟨by rfl, fun w' _ => by kernel_rfl⟩) hHeld ?_
                go_frame
                refine held_take (i := 3) (v := (.bool false)) rfl (by kernel_rfl) (by kernel_rfl) (by kernel_rfl) (fun _ _ _ h => h) (Or.inl ⟨by rfl, fun w' _ => by kernel_rfl⟩) hHeld ?_
                go_frame
                refine held_take (i := 4) (v := (.agg (mnL c0).toArray)) rfl (by kernel_rfl) (by kernel_rfl) (by kernel_rfl) (fun _ _ _ h => h) (yieldsIf_load_row (by rfl) 39 (.tmp 16) rfl g16 rfl 39 (mnL c0).toArray (0, 0) _ (fun w' hw' => hw'.1) Tryd.underlying39 rfl (by rw [ZC0.out]; kernel_rfl)) hHeld ?_
                go_frame
                refine held_take (i := 5) (v := (.agg (mnL c0).toArray)) rfl (by kernel_rfl) (by kernel_rfl) (by kernel_rfl) (fun _ _ _ h => h) (yieldsIf_load_row (by rfl) 39 (.tmp 18) rfl g18 rfl 39 (mnL c0).toArray (0, 0) _ (fun w' hw' => hw'.2.1) Tryd.underlying39 rfl (by rw [ZC0.out]; kernel_rfl)) hHeld ?_
                go_frame
                refine wpAnyH_ready (rs := [6]) (by kernel_rfl) (by simp) (held_cons rfl (fun K hK => ?_) AllReadyH.nil)
                rw [if_pos (by rfl)]
                go_simp
                refine (samemn_true c0 C0.out _).mono ?_
                rintro e v1 ⟨rfl, bb⟩
                have HG := Lib.hid (HG.out.below bb)
                have hv1 := (show _ ∧ _ ∧ _ from ⟨row_below hHeld.1 bb, row_below hHeld.2.1 bb, cell_below hHeld.2.2 bb⟩)
                clear bb hHeld
                go_wp2_with fail
                refine hK.out _ _ hv1 (fun hHeld => ?_)
                clear hK K hv1
                refine held_take (i := 7) (v := (.bool false)) rfl (by kernel_rfl) (by kernel_rfl) (by kernel_rfl) (fun _ _ _ h => h) (Or.inl ⟨by rfl, fun w' _ => by kernel_rfl⟩) hHeld ?_
                go_frame
                refine held_take (i := 8) (v := (.bool false)) rfl (by kernel_rfl) (by kernel_rfl) (by kernel_rfl) (fun _ _ _ h => h) (Or.inl ⟨by rfl, fun w' _ => by kernel_rfl⟩) hHeld ?_
                go_frame
                refine held_take (i := 9) (v := (.bool false)) rfl (by kernel_rfl) (by kernel_rfl) (by kernel_rfl) (fun _ _ _ h => h) (Or.inl ⟨by rfl, fun w' _ => by kernel_rfl⟩) hHeld ?_
                go_frame
                refine held_take (i := 10) (v := (.pointer (some ⟨g6, 0, none⟩))) rfl (by kernel_rfl) (by kernel_rfl) (by kernel_rfl) (fun _ _ _ h => h) (Or.inl ⟨by rfl, fun w' _ => by kernel_rfl⟩) hHeld ?_
                go_frame
                refine held_take (i := 12) (v := (.pointer (some ⟨g7, 0, none⟩))) rfl (by kernel_rfl) (by kernel_rfl) (by kernel_rfl) (fun _ _ _ h => h) (Or.inl ⟨by rfl, fun w' _ => by kernel_rfl⟩) hHeld ?_
                go_frame
                refine held_take (i := 13) (v := (.pointer (some ⟨g7, 0, none⟩))) rfl (by kernel_rfl) (by kernel_rfl) (by kernel_rfl) (fun _ _ _ h => h) (Or.inl ⟨by rfl, fun w' _ => by kernel_rfl⟩) hHeld ?_
                go_frame
                refine held_take (i := 14) (v := (.pointer (some ⟨g7, 0, none⟩))) rfl (by kernel_rfl) (by kernel_rfl) (by kernel_rfl) (fun _ _ _ h => h) (Or.inl ⟨by rfl, fun w' _ => by kernel_rfl⟩) hHeld ?_
                go_frame
                refine held_take (i := 15) (v := (.slice sp2 nL cap2)) rfl (by kernel_rfl) (by kernel_rfl) (by kernel_rfl) (fun _ _ _ h => h) (yieldsIf_load_one (by rfl) 34 (.tmp 144) rfl g7 (0) rfl _ _ (fun w' hw' => hw'.2.2) Tryd.underlying34 rfl) hHeld ?_
                go_frame
                refine held_take (i := 16) (v := (.int .i64 (nL : Int))) rfl (by kernel_rfl) (by kernel_rfl) (by kernel_rfl) (fun _ _ _ h => h) (Or.inl ⟨by rfl, fun w' _ => by go_simp⟩) hHeld ?_
                go_frame
                refine wpAnyH_ready (rs := [11]) (by kernel_rfl) (by simp) (held_cons rfl (fun K hK => ?_) AllReadyH.nil)
                rw [if_pos (by rfl)]
                go_simp
                refine (setlen_k _ g6 m2 s2 HG.out.t.l (nL : Int) NS.out).mono ?_
                rintro e v2 ⟨rfl, bb⟩
                have HG := Lib.hid (HG.out.below bb)
                have hv2 := (show _ ∧ _ ∧ _ from ⟨row_below hHeld.1 bb, row_below hHeld.2.1 bb, cell_below hHeld.2.2 bb⟩)
                clear bb hHeld
                go_wp2_with fail
                refine hK.out _ _ hv2 (fun hHeld => ?_)
                clear hK K hv2
                refine held_take (i := 17) (v := (.bool false)) rfl (by kernel_rfl) (by kernel_rfl) (by kernel_rfl) (fun _ _ _ h => h) (Or.inl ⟨by rfl, fun w' _ => by go_simp⟩) hHeld ?_
                go_frame
                refine held_take (i := 18) (v := (.bool false)) rfl (by kernel_rfl) (by kernel_rfl) (by kernel_rfl) (fun _ _ _ h => h) (Or.inl ⟨by rfl, fun w' _ => by kernel_rfl⟩) hHeld ?_
                go_frame
                refine held_take (i := 19) (v := (.bool false)) rfl (by kernel_rfl) (by kernel_rfl) (by kernel_rfl) (fun _ _ _ h => h) (Or.inl ⟨by rfl, fun w' _ => by kernel_rfl⟩) hHeld ?_
                go_frame
                refine held_take (i := 20) (v := (.pointer (some ⟨g6, 0, none⟩))) rfl (by kernel_rfl) (by kernel_rfl) (by kernel_rfl) (fun _ _ _ h => h) (Or.inl ⟨by rfl, fun w' _ => by kernel_rfl⟩) hHeld ?_
                go_frame
                refine held_take (i := 22) (v := (.pointer (some ⟨g7, 0, none⟩))) rfl (by kernel_rfl) (by kernel_rfl) (by kernel_rfl) (fun _ _ _ h => h) (Or.inl ⟨by rfl, fun w' _ => by kernel_rfl⟩) hHeld ?_
                go_frame
                refine wpAnyH_ready (rs := [21]) (by kernel_rfl) (by simp) (held_cons rfl (fun K hK => ?_) AllReadyH.nil)
                rw [if_pos (by rfl)]
                go_simp
                refine (settotal_any _ g6 m2 s2 HG.out.t.l tt TT.out).mono ?_
                rintro e v3 ⟨rfl, bb⟩
                have HG := Lib.hid (HG.out.below bb)
                have hv3 := (show _ ∧ _ ∧ _ from ⟨row_below hHeld.1 bb, row_below hHeld.2.1 bb, cell_below hHeld.2.2 bb⟩)
                clear bb hHeld
                go_wp2_with fail
                refine hK.out _ _ hv3 (fun hHeld => ?_)
                clear hK K hv3
                refine wpAnyH_ready (rs := [23]) (by kernel_rfl) (by simp) (held_cons rfl (fun K hK => ?_) AllReadyH.nil)
                rw [if_pos (by rfl)]
                go_simp
                refine (rtotal_any _ w.heap.size g7 _ L2 HG.out.r OL.out NLB.out tt TL.out).mono ?_
                rintro e v4 ⟨rfl, bb⟩
                have HG := Lib.hid (HG.out.below bb)
                have hv4 := (show _ ∧ _ ∧ _ from ⟨row_below hHeld.1 bb, row_below hHeld.2.1 bb, cell_below hHeld.2.2 bb⟩)
                clear bb hHeld
                go_wp2_with fail
                refine hK.out _ _ hv4 (fun hHeld => ?_)
                clear hK K hv4
                refine held_take (i := 24) (v := (.bool false)) rfl (by kernel_rfl) (by kernel_rfl) (by kernel_rfl) (fun _ _ _ h => h) (Or.inl ⟨by rfl, fun w' _ => by go_simp⟩) hHeld ?_
                go_frame
                refine held_take (i := 25) (v := (.bool false)) rfl (by kernel_rfl) (by kernel_rfl) (by kernel_rfl) (fun _ _ _ h => h) (Or.inl ⟨by rfl, fun w' _ => by kernel_rfl⟩) hHeld ?_
                go_frame
                refine held_take (i := 26) (v := (.bool false)) rfl (by kernel_rfl) (by kernel_rfl) (by kernel_rfl) (fun _ _ _ h => h) (Or.inl ⟨by rfl, fun w' _ => by kernel_rfl⟩) hHeld ?_
                go_frame
                refine held_take (i := 27) (v := (.pointer (some ⟨gc, 0, none⟩))) rfl (by kernel_rfl) (by kernel_rfl) (by kernel_rfl) (fun _ _ _ h => h) (Or.inl ⟨by rfl, fun w' _ => by kernel_rfl⟩) hHeld ?_
                go_frame
                refine held_take (i := 29) (v := (.int .i64 (was : Int))) rfl (by kernel_rfl) (by kernel_rfl) (by kernel_rfl) (fun _ _ _ h => h) (Or.inl ⟨by rfl, fun w' _ => by kernel_rfl⟩) hHeld ?_
                go_frame
                refine wpAnyH_ready (rs := [28]) (by kernel_rfl) (by simp) (held_cons rfl (fun K hK => ?_) AllReadyH.nil)
                rw [if_pos (by rfl)]
                go_simp
                refine (setlen_k _ gc mc lc HG.out.t.r (was : Int) WAS.out).mono ?_
                rintro e v5 ⟨rfl, bb⟩
                have HG := Lib.hid (HG.out.below bb)
                have hv5 := (show _ ∧ _ ∧ _ from ⟨row_below hHeld.1 bb, row_below hHeld.2.1 bb, cell_below hHeld.2.2 bb⟩)
                clear bb hHeld
                go_wp2_with fail
                refine hK.out _ _ hv5 (fun hHeld => ?_)
                clear hK K hv5
                refine held_take (i := 30) (v := (.bool false)) rfl (by kernel_rfl) (by kernel_rfl) (by kernel_rfl) (fun _ _ _ h => h) (Or.inl ⟨by rfl, fun w' _ => by go_simp⟩) hHeld ?_
                go_frame
                refine held_take (i := 31) (v := (.bool false)) rfl (by kernel_rfl) (by kernel_rfl) (by kernel_rfl) (fun _ _ _ h => h) (Or.inl ⟨by rfl, fun w' _ => by kernel_rfl⟩) hHeld ?_
                go_frame
                refine wpAnyH_done (by kernel_rfl) ?_ _
                clear hHeld
                go_wp2_with fail
                go_roundw
                case rel =>
                  exact ⟨k + 1, _, _, _, _, by omega, by go_num, HG.out.t.l, HG.out.r, PL.out, SLE.out, HG.out.hi, HG.out.f3, HG.out.bel⟩
                case measure => simp [intOf]; omega
    · skip
      have hge : ¬ (k : Int) < (n : Int) := by omega
      obtain ⟨sp2, cap2, rfl⟩ := RR.out.at.shape
      rw [List.length_map] at RR
      obtain ⟨nL, hnL⟩ : ∃ nL, nL = L.length := ⟨_, rfl⟩
      rw [← hnL] at RR
      have OS : Hid (∀ x ∈ s, SpOk x) := SS.out.map.ok
      have OL : Hid (∀ x ∈ L, SpOk x) := fun x hx => OS.out x (PL.out.pm.mem_iff.1 hx)
      have NSB : Hid (s.length ≤ 1048576) := by show _ ≤ _; have h3 := SLE.out; omega
      have NLB : Hid (L.length ≤ 1048576) := by show _ ≤ _; have h2 := PL.out.len; have h3 := SLE.out; omega
      obtain ⟨sl, hsl⟩ : ∃ sl, sl = sha (bytesC L) := ⟨_, rfl⟩
      have SLS := Lib.hid hsl
      have SLN : Hid (sl.length = 32) := by show _ = _; rw [hsl]; exact sha_length _
      clear hsl hnL hkn hlt
      go_upto_region 27 with fail
      refine wp_region_held_drew (S := (fun w' => w'.cell? ⟨g7, 0, none⟩ = some (.slice sp2 nL cap2))) (by kernel_rfl) (RR.out.cell) (fun hHeld => ?_)
      have SS := Lib.hid (SS.out.below (Below.drew (Below.refl _ _)))
      have RR := Lib.hid (RR.out.below (Below.drew (Below.refl _ _)))
      have BB := Lib.hid (BB.out.trans ((Below.drew (Below.refl _ _)).mono BB.out.size))
      generalize hwd : wr.drew = wd at SS RR BB hHeld ⊢
      clear hwd
      refine held_take (i := 0) (v := (.bool true)) rfl (by kernel_rfl) (by kernel_rfl) (by kernel_rfl) (fun _ _ _ h => h) (Or.inl ⟨by rfl, fun w' _ => by kernel_rfl⟩) hHeld ?_
      go_frame
      refine held_take (i := 1) (v := (.bool true)) rfl (by kernel_rfl) (by kernel_rfl) (by kernel_rfl) (fun _ _ _ h => h) (Or.inl ⟨by rfl, fun w' _ => by kernel_rfl⟩) hHeld ?_
      go_frame
      refine held_take (i := 2) (v := (.pointer (some ⟨g6, 0, none⟩))) rfl (by kernel_rfl) (by kernel_rfl) (by kernel_rfl) (fun _ _ _ h => h) (Or.inl ⟨by rfl, fun w' _ => by kernel_rfl⟩) hHeld ?_
      go_frame
      refine held_take (i := 4) (v := (.pointer (some ⟨g7, 0, none⟩))) rfl (by kernel_rfl) (by kernel_rfl) (by kernel_rfl) (fun _ _ _ h => h) (Or.inl ⟨by rfl, fun w' _ => by kernel_rfl⟩) hHeld ?_
      go_frame
      refine held_take (i := 5) (v := (.pointer (some ⟨g7, 0, none⟩))) rfl (by kernel_rfl) (by kernel_rfl) (by kernel_rfl) (fun _ _ _ h => h) (Or.inl ⟨by rfl, fun w' _ => by kernel_rfl⟩) hHeld ?_
      go_frame
      refine held_take (i := 6) (v := (.pointer (some ⟨g7, 0, none⟩))) rfl (by kernel_rfl) (by kernel_rfl) (by kernel_rfl) (fun _ _ _ h => h) (Or.inl ⟨by rfl, fun w' _ => by kernel_rfl⟩) hHeld ?_
      go_frame
      refine held_take (i := 7) (v := (.slice sp2 nL cap2)) rfl (by kernel_rfl) (by kernel_rfl) (by kernel_rfl) (fun _ _ _ h => h) (yieldsIf_load_one (by rfl) 34 (.tmp 168) rfl g7 (0) rfl _ _ (fun w' hw' => hw') Tryd.underlying34 rfl) hHeld ?_
      go_frame
      refine wpAnyH_ready (rs := [3]) (by kernel_rfl) (by simp) (held_cons rfl (fun K hK => ?_) AllReadyH.nil)
      rw [if_pos (by rfl)]
      go_simp
      refine (setall_srt _ g6 m s L SS.out NSB.out PL.out.pm PL.out.so).mono ?_
      rintro e v1 ⟨va, rfl, pa, bb⟩
      have PA := Lib.hid pa
      clear pa
      have SS := Lib.hid (SS.out.below bb)
      have RR := Lib.hid (RR.out.below bb)
      have BB := Lib.hid (BB.out.trans (bb.mono BB.out.size))
      have hv1 := cell_below hHeld bb
      clear bb hHeld
      go_wp2_with fail
      refine hK.out _ _ hv1 (fun hHeld => ?_)
      clear hK K hv1
      refine wpAnyH_ready (rs := [8]) (by kernel_rfl) (by simp) (held_cons rfl (fun K hK => ?_) AllReadyH.nil)
      rw [if_pos (by rfl)]
      go_simp
      refine (samesps_true L OL.out va _ _ PA.out RR.out.at NLB.out).mono ?_
      rintro e v2 ⟨rfl, bb⟩
      have SS := Lib.hid (SS.out.below bb)
      have RR := Lib.hid (RR.out.below bb)
      have BB := Lib.hid (BB.out.trans (bb.mono BB.out.size))
      have PA := Lib.hid (PA.out.below bb)
      have hv2 := cell_below hHeld bb
      clear bb hHeld
      go_wp2_with fail
      refine hK.out _ _ hv2 (fun hHeld => ?_)
      clear hK K hv2
      refine held_take (i := 9) (v := (.bool true)) rfl (by kernel_rfl) (by kernel_rfl) (by kernel_rfl) (fun _ _ _ h => h) (Or.inl ⟨by rfl, fun w' _ => by kernel_rfl⟩) hHeld ?_
      go_frame
      refine held_take (i := 10) (v := (.bool true)) rfl (by kernel_rfl) (by kernel_rfl) (by kernel_rfl) (fun _ _ _ h => h) (Or.inl ⟨by rfl, fun w' _ => by kernel_rfl⟩) hHeld ?_
      go_frame
      refine held_take (i := 11) (v := (.pointer (some ⟨g6, 0, none⟩))) rfl (by kernel_rfl) (by kernel_rfl) (by kernel_rfl) (fun _ _ _ h => h) (Or.inl ⟨by rfl, fun w' _ => by kernel_rfl⟩) hHeld ?_
      go_frame
      refine held_take (i := 13) (v := (.pointer (some ⟨g7, 0, none⟩))) rfl (by kernel_rfl) (by kernel_rfl) (by kernel_rfl) (fun _ _ _ h => h) (Or.inl ⟨by rfl, fun w' _ => by kernel_rfl⟩) hHeld ?_
      go_frame
      refine wpAnyH_ready (rs := [12]) (by kernel_rfl) (by simp) (held_cons rfl (fun K hK => ?_) AllReadyH.nil)
      rw [if_pos (by rfl)]
      go_simp
      refine (setsum_srt _ g6 m s L SS.out NSB.out (HK.out.below BB.out) PL.out.pm PL.out.so sl SLS.out).mono ?_
      rintro e v3 ⟨rfl, bb⟩
      have SS := Lib.hid (SS.out.below bb)
      have RR := Lib.hid (RR.out.below bb)
      have BB := Lib.hid (BB.out.trans (bb.mono BB.out.size))
      have PA := Lib.hid (PA.out.below bb)
      have hv3 := cell_below hHeld bb
      clear bb hHeld
      go_wp2_with fail
      refine hK.out _ _ hv3 (fun hHeld => ?_)
      clear hK K hv3
      refine wpAnyH_ready (rs := [14]) (by kernel_rfl) (by simp) (held_cons rfl (fun K hK => ?_) AllReadyH.nil)
      rw [if_pos (by rfl)]
      go_simp
      refine (rsum_any _ w.heap.size g7 _ L RR.out OL.out NLB.out sl SLS.out).mono ?_
      rintro e v4 ⟨rfl, bb⟩
      have SS := Lib.hid (SS.out.below bb)
      have RR := Lib.hid (RR.out.below bb)
      have BB := Lib.hid (BB.out.trans (bb.mono BB.out.size))
      have PA := Lib.hid (PA.out.below bb)
      have hv4 := cell_below hHeld bb
      clear bb hHeld
      go_wp2_with fail
      refine hK.out _ _ hv4 (fun hHeld => ?_)
      clear hK K hv4
      refine wpAnyH_ready (rs := [15]) (by kernel_rfl) (by simp) (held_cons rfl (fun K hK => ?_) AllReadyH.nil)
      rw [if_pos (by rfl)]
      go_simp
      refine (same_true sl sl rfl SLN.out _).mono ?_
      rintro e v5 ⟨rfl, bb⟩
      have SS := Lib.hid (SS.out.below bb)
      have RR := Lib.hid (RR.out.below bb)
      have BB := Lib.hid (BB.out.trans (bb.mono BB.out.size))
      have PA := Lib.hid (PA.out.below bb)
      have hv5 := cell_below hHeld bb
      clear bb hHeld
      go_wp2_with fail
      refine hK.out _ _ hv5 (fun hHeld => ?_)
      clear hK K hv5
      refine held_take (i := 16) (v := (.bool true)) rfl (by kernel_rfl) (by kernel_rfl) (by kernel_rfl) (fun _ _ _ h => h) (Or.inl ⟨by rfl, fun w' _ => by kernel_rfl⟩) hHeld ?_
      go_frame
      refine held_take (i := 17) (v := (.bool true)) rfl (by kernel_rfl) (by kernel_rfl) (by kernel_rfl) (fun _ _ _ h => h) (Or.inl ⟨by rfl, fun w' _ => by kernel_rfl⟩) hHeld ?_
      go_frame
      refine wpAnyH_done (by kernel_rfl) ?_ _
      clear hHeld
      go_wp2_with fail
      go_ret
      exact ⟨rfl, BB.out⟩
end Go.Proofs.YtlmfchcafhidoaaDoor.Sha
