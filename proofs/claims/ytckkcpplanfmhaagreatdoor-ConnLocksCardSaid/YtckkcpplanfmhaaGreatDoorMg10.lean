/-
  The statements' own SHA-256 answers what the chapter says, for any bytes; nothing that was there turns. Conditions: the bytes lie where the slice says, fewer than 2^46.
-/
import Derived.Test.YtckkcpplanfmhaaGreatDoorMg09
namespace Go.Proofs.YtckkcpplanfmhaaGreatDoor.Sha
open Go Go.RowKit
attribute [local go_sem] bv_u32 bv_u32' wv_shl24 wv_shl16 wv_shl8 wr_shl24 wr_shl16 wr_shl8 wv_or wv_sum wv_add wv_xor wv_and wv_andNot wv_not wv_sum3 wv_sum4 wv_shr3 wv_shr10
set_option maxHeartbeats 4000000 in
set_option maxRecDepth 100000 in
theorem ref_any (bs : List UInt8) (sp : Option Addr) (n cap : Nat) (w : World) (hs : SrcB w (.slice sp n cap) bs) (hn : n ≤ 35184372088832) :
    Calls Tryz.prog 20 #[.slice sp n cap] w fun e w' => e = .returned (.agg ((sha bs).map bV).toArray) ∧ Below w.heap.size w w' := by
  obtain ⟨i0, hi, hz0, hz1, hz2⟩ := info_parts info_u8
  obtain ⟨i1, hi1, hy0, hy1, hy2⟩ := info_parts ow_u32
  have HNB := Lib.hid hs.le.1
  have HS := Lib.hid hs
  clear hs
  go_enter Tryz.func20, Tryz.ntmps20
  go_upto_region 2 with (fail)
  obtain ⟨w2, hw2, f1, f2, f3, f4⟩ := ref_setup w (List.replicate 32 (bV 0)).toArray 44 (.cells start.cells.toArray 23)
  generalize hw3 : World.alloc _ _ = w3
  obtain rfl : w2 = w3 := by rw [← hw2, ← hw3]; rfl
  clear hw2 hw3
  have F1 := Lib.hid f1
  have F2 := Lib.hid f2
  have F3 := Lib.hid f3
  have F4 := Lib.hid f4
  clear f1 f2 f3 f4
  go_upto_region 3 with (first | (go_at_call 50; refine (bytes_copy_any bs sp n cap _ (HS.out.below F1.out) (by omega)).mono ?_; rintro e w8 ⟨rfl, ho8, hb8⟩; have HO8 := Lib.hid ho8; have HB8 := Lib.hid hb8; clear ho8 hb8) | (at_builtin; refine wpList_append_own _ rfl _ _ 51 rfl w2.heap.size 5 i0 (.int .u8 0) 1 1 Tryz.underlying51 hi hz0 hz1 hz2 rfl (by decide) _ _ _ rfl (HO8.out.alloc _) ⟨w8.heap.size, 0, none⟩ 1 1 [.int .u8 128] rfl rfl (cell_one_new _ _ _) (one_u8 _) (by unfold maxLen; omega) (by omega) (by have := HB8.out.size; simp; omega) ?_; intro v9 w9 ho9 hg9 hx9; clear hx9; have HO9 := Lib.hid ho9; have HG9 := Lib.hid hg9; clear ho9 hg9; go_frame) | fail)
  have hR0 : RzInv bs w2.heap.size w2 v9 w9 := by
    have hnb := HNB.out
    refine ⟨0, Nat.zero_le _, ?_, (HB8.out.alloc HB8.out.size _).grown HG9.out (by have := HB8.out.size; simp; omega) (fun k hk => by cases hk; exact Nat.le_refl _)⟩
    have e : (grown bs 0).map bV = bs.map bV ++ [.int .u8 128] := by simp [grown]; rfl
    rw [e, Nat.add_zero, ← hnb]
    exact HO9.out
  have HR0 := Lib.hid hR0
  clear hR0 HO8 HB8 HO9 HG9
  go_loopw [4] (fun v wr => RzInv bs w2.heap.size w2 v wr) (fun v _ => n + 64 - lenV v)
  case atStart => exact HR0.out
  case round =>
    clear HR0
    obtain ⟨j, hj, hown, hb⟩ := hrel
    have hnb := HNB.out
    obtain ⟨m, hm⟩ : ∃ m, m = bs.length + 1 + j := ⟨_, rfl⟩
    rw [← hm] at hown
    obtain ⟨g, cp, rfl, hg, hcp⟩ := own_shape hown (by omega)
    obtain ⟨u, hu⟩ : ∃ u, u = m % 64 := ⟨_, rfl⟩
    have hmod : (m : Int).tmod 64 = (u : Int) := by rw [Int.tmod_eq_emod_of_nonneg (by omega)]; omega
    have hpl := padLen_bd bs.length
    have hmn : m ≤ n + 64 := by omega
    have HO := Lib.hid hown
    have HB := Lib.hid hb
    have HM := Lib.hid hm
    have HNB' := Lib.hid hnb
    by_cases hlt : j < padLen bs.length - 1
    · have hne := zeros_more bs.length j hlt
      have ht : ((u : Int) != 56) = true := by rw [bne_iff_ne]; omega
      have hmn2 : m + 1 ≤ n + 64 := by omega
      clear hmn
      clear hown hb hm hu hne hpl hnb
      go_wp2_with (at_builtin; refine wpList_append_own _ rfl _ _ 51 rfl w2.heap.size 5 i0 (.int .u8 0) 1 1 Tryz.underlying51 hi hz0 hz1 hz2 rfl (by decide) _ _ _ rfl (HO.out.alloc _) ⟨wr.heap.size, 0, none⟩ 1 1 [.int .u8 0] rfl rfl (cell_one_new _ _ _) (one_u8 _) (by unfold maxLen; omega) (by omega) (by have := HB.out.size; simp; omega) ?_; intro v9 w9 ho9 hg9 hx9; clear hx9; have HO9 := Lib.hid ho9; have HG9 := Lib.hid hg9; clear ho9 hg9; go_frame)
      go_roundw
      case rel =>
        have hm := HM.out
        refine ⟨j + 1, by omega, ?_, (HB.out.alloc HB.out.size _).grown HG9.out (by have := HB.out.size; simp; omega) (fun k hk => by cases hk; exact hg)⟩
        rw [← grown_succ, List.map_append, show bs.length + 1 + (j + 1) = m + 1 by omega]
        exact HO9.out
      case measure =>
        obtain ⟨g', cp', rfl, _, _⟩ := own_shape HO9.out (Nat.succ_pos _)
        show n + 64 - (m + 1) < n + 64 - m
        omega
    · have hje : j = padLen bs.length - 1 := by omega
      have hend := zeros_end bs.length
      have ht : ((u : Int) != 56) = false := by simp only [bne_eq_false_iff_eq]; omega
      have HOP : Hid (wr.ownsRow w2.heap.size 5 1 (.slice (some ⟨g, 0, none⟩) m cp) m ((bs ++ pad bs.length).map bV)) := by
        have h := HO.out
        rw [hje, grown_pad] at h
        exact h
      have HMP : Hid (m = bs.length + padLen bs.length) := Lib.hid (by have := HM.out; omega)
      clear hown hb hm hu hpl hnb hend hlt hje HO
      go_upto_region 6 with (fail)
      clear ht
      have HB8 := Lib.hid HB.out
      go_wp2_with fail
      obtain ⟨wa, hwa⟩ : ∃ wa, wa = wr := ⟨_, rfl⟩
      rw [← hwa] at HOP HB
      go_loopw [4, 6] (fun v i wr => RzTwo bs w2.heap.size w2 v i wr) (fun _ i _ => (8 + intOf i).toNat)
      case atStart =>
        refine ⟨0, by omega, rfl, ?_, HB8.out⟩
        have h := HOP.out
        rw [show bs.length + padLen bs.length + 0 = m from HMP.out.symm, List.take_zero, List.append_nil]
        rw [hwa] at h
        exact h
      case round =>
        clear HOP HB HB8 HM HMP
        obtain ⟨k, hk, rfl, hown, hb⟩ := hrel
        have hpl := padLen_bd bs.length
        obtain ⟨m2, hm2⟩ : ∃ m2, m2 = bs.length + padLen bs.length + k := ⟨_, rfl⟩
        rw [← hm2] at hown
        obtain ⟨g2, cp2, rfl, hg2, hcp2⟩ := own_shape hown (by omega)
        have hmn3 : m2 ≤ n + 72 := by have := HNB.out; omega
        have HO2 := Lib.hid hown
        have HB2 := Lib.hid hb
        have HM2 := Lib.hid hm2
        clear hown hb hm2 hpl
        by_cases hlt : k < 8
        · have hv := lb_value n k
          rw [Int.mul_comm] at hv
          have hv' : (8 * (n : Int)) / 2 ^ (56 - 8 * k) % 256 = bv (lenByte n k) := by rw [← hv, IntKind.wrap_u8']
          have e8 : 8 * (7 - (k : Int)) = ((56 - 8 * k : Nat) : Int) := by omega
          go_wp2_with (at_builtin; refine wpList_append_own _ rfl _ _ 51 rfl w2.heap.size 5 i0 (.int .u8 0) 1 1 Tryz.underlying51 hi hz0 hz1 hz2 rfl (by decide) _ _ _ rfl (HO2.out.alloc _) ⟨wr.heap.size, 0, none⟩ 1 1 [.int .u8 (bv (lenByte n k))] rfl rfl (cell_one_new _ _ _) (one_u8 _) (by unfold maxLen; omega) (by omega) (by have := HB2.out.size; simp; omega) ?_; intro v9 w9 ho9 hg9 hx9; clear hx9; have HO9 := Lib.hid ho9; have HG9 := Lib.hid hg9; clear ho9 hg9; go_frame)
          go_roundw
          case rel =>
            have hm := HM2.out
            refine ⟨k + 1, by omega, congrArg (Value.int .i64) (by omega), ?_, (HB2.out.alloc HB2.out.size _).grown HG9.out (by have := HB2.out.size; simp; omega) (fun k hk => by cases hk; exact hg2)⟩
            rw [len8_snoc _ k hlt, ← List.append_assoc, List.map_append, show bs.length + padLen bs.length + (k + 1) = m2 + 1 by omega, ← HNB.out]
            have h := HO9.out
            rw [← HNB.out] at h
            exact h
          case measure => simp [intOf]; omega
        · have hk8 : k = 8 := by omega
          have hge : ¬ (0 : Int) ≤ 7 - (k : Int) := by omega
          have HOM : Hid (wr.ownsRow w2.heap.size 5 1 (.slice (some ⟨g2, 0, none⟩) m2 cp2) m2 ((padded bs).map bV)) := by
            have h := HO2.out
            rw [hk8] at h
            exact h
          have HPL : Hid (m2 = (padded bs).length) := by
            have h1 := HM2.out
            show _ = _
            rw [padded_length]; omega
          clear HO2 HM2 hk8 hlt hk
          go_upto_region 12 with (go_at_call 51; refine (k_any _).mono ?_; rintro e w3 ⟨rfl, hc3, hb3⟩; have HC3 := Lib.hid hc3; have HB3 := Lib.hid hb3; clear hc3 hb3)
          go_wp2_with fail
          obtain ⟨K, hK⟩ : ∃ K, K = wr.heap.size := ⟨_, rfl⟩
          obtain ⟨H, hH⟩ : ∃ H, H = w.heap.size + 1 := ⟨_, rfl⟩
          have FR := ref_frame F1.out F2.out F3.out F4.out HB2.out HB3.out HC3.out HOM.out hg2 hH hK HPL.out
          rw [← hK, ← hH]
          clear F1 F3 F4 HB2 HB3 HC3 HOM hK hH
          obtain ⟨hMG, hKC, hHH, hOUT, hB0, hz1, hz2, hz3, hz0⟩ := FR
          have HMG := Lib.hid hMG
          have HKC := Lib.hid hKC
          have HHH := Lib.hid hHH
          have HOUT := Lib.hid hOUT
          have HB0 := Lib.hid hB0
          clear hMG hKC hHH hOUT hB0
          go_loopw [8] (fun i wr => MnInv bs w3 H i wr) (fun i _ => m2 + 64 - (intOf i).toNat)
          case atStart => exact ⟨0, Nat.zero_le _, rfl, HHH.out, grownBy_refl _ _⟩
          case round =>
            obtain ⟨j, hj, rfl, hrow, hgr⟩ := hrel
            by_cases hlt : 64 * j < m2
            · --DEV{
              obtain ⟨at', hat⟩ : ∃ x, x = 64 * j := ⟨_, rfl⟩
              have hfit : at' + 64 ≤ m2 := by have h1 := HPL.out; have h2 := padded_mod bs; omega
              have hb : ∀ i, i < 64 → wr.cell? ⟨g2, at' + i, none⟩ = some (.int .u8 (bv (blk (padded bs) j i))) := fun i hi => by
                rw [hat]
                exact hgr.cell (HMG.out (64 * j + i) (by omega)) (fun e => by have := Option.some.inj e; exact hz2 this)
              have hj1 : j + 1 ≤ (padded bs).length / 64 := by have := HPL.out; omega
              rw [← hat] at hlt ⊢
              have HAT := Lib.hid hat
              have HB := Lib.hid hb
              have HROW := Lib.hid hrow
              have HGR := Lib.hid hgr
              have HJ1 := Lib.hid hj1
              clear hat hb hrow hgr hj hj1
              have hmk : ∀ w, (Instr.makeSlice 28 (.int .i64 64) (.int .i64 64)).run Tryz.prog w = .ok (.slice (some ⟨w.heap.size, 0, none⟩) 64 64) (w.alloc (.cells (List.replicate 64 (wV 0)).toArray 23)) := fun _ => by kernel_rfl
              obtain ⟨Z, hZ⟩ : ∃ Z, Z = (List.replicate 64 (wV 0)).toArray := ⟨_, rfl⟩
              rw [← hZ] at hmk
              have HZ := Lib.hid hZ
              clear hZ
              obtain ⟨b, hb⟩ : ∃ b, b = blk (padded bs) j := ⟨_, rfl⟩
              rw [← hb] at HB
              have HBLK := Lib.hid hb
              clear hb
              go_wp2_with fail
              clear hmk
              obtain ⟨wo, rfl⟩ : ∃ wo : World, wo = wr := ⟨_, rfl⟩
              refine sched_loop b g2 at' m2 cp2 wo _ hfit (by omega) HB (Lib.hid ⟨0, by omega, rfl, by rw [heap_alloc_new, HZ.out]; rfl, (Below.refl _ _).alloc (Nat.le_refl _) _⟩) _ _ _ _ _ _ _ _ _ _ _ _ _ _ _ _ _ _ _ _ _ _ _ _ _ _ _ _ _ _ _ _ _ _ _ _ _ _ _ _ _ _ _ _ _ _ _ _ _ _ _ _ _ _ _ _ _ _ _ _ _ _ _ _ _ _ _ _ _ _ _ _ _ _ _ _ _ _ _ _ _ _ _ _ _ _ _ _ _ _ _ _ _ _ _ _ _ _ _ _ _ _ _ _ _ _ _ _ _ _ _ _ _ _ _ _ _ _ _ _ _ _ _ _ _ _ _ _ _ _ _ _ _ _ _ _ _ _ _ _ _ _ _ _ _ _ _ _ _ _ _ _ _ _ _ _ _ _ _ _ _ _ _ _ _ _ _ _ _ _ _ _ _ _ _ _ _ _ _ _ _ _ _ _ _ _ _ _ _ _ _ _ _ _ _ _ _ _ _ _ _ _ _ _ _ _ _ _ _ _ _ _ _ _ _ _ _ _ _ _ _ _ _ _ _ _ _ _ _ _ _ _ _ _ _ _ _ _ _ _ _ _ _ _ _ _ _ _ _ _ _ _ _ _ _ _ _ _ _ _ _ _ _ _ _ _ _ _ _ _ _ _ _ _ _ _ _ _ _ ?_
              intro u11 u12 u13 u60 u61 u62 u63 u64 u65 u66 u67 u68 u69 u70 u71 u72 u73 u74 u75 u76 u77 u78 u79 u80 u81 u82 u83 u84 u85 u86 u87 u88 u89 u90 u91 u92 u93 u94 u95 u96 u97 u98 u99 u100 u101 u102 u103 u104 u105 u106 u107 u108 u109 u110 u111 u112 u113 u114 u115 u116 u117 u118 u119 u120 u121 u122 u123 u124 u125 u126 u127 u128 u129 u130 u131 u132 u133 u134 u135 u136 u137 u138 u139 u140 u141 u142 u143 wr hp
              obtain ⟨hrow, hbel⟩ := hp.out
              rw [rowV_all] at hrow
              clear hp
              have HWS := Lib.hid hrow
              have HW := Lib.hid hbel
              have hwq : wo.heap.size < wr.heap.size := (Array.getElem?_eq_some_iff.1 hrow).1
              clear hrow hbel HB
              obtain ⟨wq, rfl⟩ : ∃ wq : World, wq = wr := ⟨_, rfl⟩
              have h3o : w3.heap.size ≤ wo.heap.size := HGR.out.size
              have hHq : wq.heap[H]? = some (.cells (blocks (padded bs) j).cells.toArray 23 (0, 0)) := by rw [HW.out.block H (by omega)]; exact HROW.out
              have hKq : wq.heap[K]? = some (.cells (kList.map wV).toArray 23 (0, 0)) := by
                rw [HW.out.block K (by omega), HGR.out.block K (by omega) (fun e => by have := Option.some.inj e; omega)]; exact HKC.out
              have HHQ := Lib.hid hHq
              have HKQ := Lib.hid hKq
              obtain ⟨s, hs⟩ : ∃ s, s = blocks (padded bs) j := ⟨_, rfl⟩
              rw [← hs] at HHQ
              have HSJ := Lib.hid hs
              obtain ⟨l, hl⟩ : ∃ l, l = row b 64 := ⟨_, rfl⟩
              rw [← hl] at HWS
              have HL := Lib.hid hl
              have HLL : Hid (l.length = 64) := Lib.hid (by rw [hl, row_length])
              clear hHq hKq hs hl HROW
              go_upto_region 25 with (at_builtin; refine wpList_append_own _ rfl _ _ 28 rfl wq.heap.size 23 i1 (.int .u32 0) 1 4 Tryz.underlying28 hi1 hy0 hy1 hy2 rfl (by decide) _ _ _ rfl (World.ownsRow_made (base := wq.heap.size) wq #[] 0 (Nat.le_refl _) (by decide) rfl) ⟨H, 0, none⟩ 8 8 s.cells rfl rfl (ref_news HHQ.out _) (one_cells s) (by decide) (by decide) (by simp) ?_; intro v9 w9 ho9 hg9 hx9; clear hx9; have HO9 := Lib.hid ho9; have HG9 := Lib.hid hg9; clear ho9 hg9; go_frame)
              obtain ⟨g5, cp5, rfl, hg5, hcp5⟩ := own_shape HO9.out (by omega)
              have hR5 : RrInv l s wq (.slice (some ⟨g5, 0, none⟩) 8 cp5) (.int .i64 0) w9 :=
                ⟨0, g5, cp5, by omega, rfl, rfl, by omega, hg5, fun j x hx => by rw [HO9.out.cellAt j (by have := (List.getElem?_eq_some_iff.1 hx).1; rw [St.cells_length] at this; omega)]; exact hx,
                  ((Below.refl _ _).alloc (Nat.le_refl _) _).grown HG9.out (by simp) (fun k hk => by cases hk; exact Nat.le_refl _)⟩
              have HR5 := Lib.hid hR5
              clear hR5 HO9 HG9 hg5 hcp5
              go_wp2_with fail
              refine rounds_loop l s K wo.heap.size g5 cp5 wq _ HLL (by omega) hwq HKQ HWS HR5 _ _ _ _ _ _ _ _ _ _ _ _ _ _ _ _ _ _ _ _ _ _ _ _ _ _ _ _ _ _ _ _ _ _ _ _ _ _ _ _ _ _ _ _ _ _ _ _ _ _ _ _ _ _ _ _ _ _ _ _ _ _ _ _ _ _ _ _ _ _ _ _ _ _ _ _ _ _ _ _ _ _ _ _ _ _ _ _ _ _ _ _ _ _ _ _ _ _ _ _ _ _ _ _ _ _ _ _ _ _ _ _ _ _ _ _ _ _ _ _ _ _ _ _ _ _ _ _ _ _ _ _ _ _ _ _ _ _ _ _ _ _ _ _ _ _ _ _ _ _ _ _ _ _ _ _ _ _ _ _ _ _ _ _ _ _ _ _ _ _ _ _ _ _ _ _ _ _ _ _ _ _ _ _ _ _ _ _ _ _ _ _ _ _ _ _ _ _ _ _ _ _ _ _ _ _ _ _ _ _ _ _ _ _ _ _ _ _ _ _ _ _ _ _ _ _ _ _ _ _ _ _ _ _ _ _ _ _ _ _ _ _ _ _ _ _ _ _ _ _ _ _ _ _ _ _ _ _ _ _ _ _ _ _ _ _ _ _ _ _ _ _ _ _ _ _ _ _ _ ?_
              intro u16 u17 u18 u19 u147 u148 u149 u150 u151 u152 u153 u154 u155 u156 u157 u158 u159 u160 u161 u162 u163 u164 u165 u166 u167 u168 u169 u170 u171 u172 u173 u174 u175 u176 u177 u178 u179 u180 u181 u182 u183 u184 u185 u186 u187 u188 u189 u190 u191 u192 u193 u194 u195 u196 u197 u198 u199 u200 u201 u202 u203 u204 u205 u206 u207 u208 u209 u210 u211 u212 u213 u214 u215 u216 u217 u218 u219 u220 u221 u222 u223 u224 u225 u226 u227 u228 u229 u230 u231 u232 u233 u234 u235 u236 u237 u238 u239 u240 u241 u242 u243 u244 u245 u246 g6 cp6 wr hp
              obtain ⟨hg6, hcells, hbel⟩ := hp.out
              obtain ⟨r, hr⟩ : ∃ r, rounds l s 64 = r := ⟨_, rfl⟩
              rw [hr] at hcells
              clear hp HR5
              have HRR := Lib.hid hr
              have HV := Lib.hid hcells
              have hHr : wr.heap[H]? = some (.cells (addHL s r 0).toArray 23 (0, 0)) := by rw [hbel.block H (by omega)]; exact HHQ.out
              have HHR := Lib.hid hHr
              have hgR : w3.grownBy wr (some H) := grownBy_trans HGR.out (grownBy_of_below (HW.out.trans (hbel.mono HW.out.size)) _)
              have HGRR := Lib.hid hgR
              have hgH : g6 ≠ H := by omega
              clear hr hcells hHr hgR hbel HHQ HKQ HWS HGR HW
              obtain ⟨wx, rfl⟩ : ∃ wx : World, wx = wr := ⟨_, rfl⟩
              go_wp2_with fail
              refine adds_loop s r H g6 cp6 wx hgH HV HHR _ _ _ _ _ _ _ _ _ _ _ _ _ _ _ _ _ _ _ _ _ _ _ _ _ _ _ _ _ _ _ _ _ _ _ _ _ _ _ _ _ _ _ _ _ _ _ _ _ _ _ _ _ _ _ _ _ _ _ _ _ _ _ _ _ _ _ _ _ _ _ _ _ _ _ _ _ _ _ _ _ _ _ _ _ _ _ _ _ _ _ _ _ _ _ _ _ _ _ _ _ _ _ _ _ _ _ _ _ _ _ _ _ _ _ _ _ _ _ _ _ _ _ _ _ _ _ _ _ _ _ _ _ _ _ _ _ _ _ _ _ _ _ _ _ _ _ _ _ _ _ _ _ _ _ _ _ _ _ _ _ _ _ _ _ _ _ _ _ _ _ _ _ _ _ _ _ _ _ _ _ _ _ _ _ _ _ _ _ _ _ _ _ _ _ _ _ _ _ _ _ _ _ _ _ _ _ _ _ _ _ _ _ _ _ _ _ _ _ _ _ _ _ _ _ _ _ _ _ _ _ _ _ _ _ _ _ _ _ _ _ _ _ _ _ _ _ _ _ _ _ _ _ _ _ _ _ _ _ _ _ _ _ _ _ _ _ _ _ _ _ _ _ _ _ _ _ _ _ _ ?_
              intro u247 u248 u249 u250 u251 u252 u253 u254 u255 u256 u257 u258 u259 u260 u261 u262 wr hp
              obtain ⟨hrow, hgr⟩ := hp.out
              clear hp HHR
              have HROWS := Lib.hid hrow
              have HGS := Lib.hid hgr
              clear hrow hgr
              go_wp2_with fail
              go_roundw
              case rel =>
                refine ⟨j + 1, HJ1.out, ?_, ?_, grownBy_trans HGRR.out HGS.out⟩
                · exact congrArg (Value.int .i64) (by have := HAT.out; omega)
                · rw [HROWS.out]
                  have e : blocks (padded bs) (j + 1) = s.plus r := by
                    show compress (blocks (padded bs) j) (blk (padded bs) j) = _
                    rw [← HSJ.out, ← HBLK.out]
                    unfold compress
                    rw [← HL.out, HRR.out]
                  rw [e]
                  rfl
              case measure => simp [intOf]; omega
              --DEV}
            · have hge : ¬ ((64 * j : Nat) : Int) < (m2 : Int) := by omega
              have hjn : j = (padded bs).length / 64 := by have := HPL.out; have := padded_mod bs; omega
              obtain ⟨s, hs⟩ : ∃ s, s = blocks (padded bs) j := ⟨_, rfl⟩
              rw [← hs] at hrow
              rw [hjn] at hs
              have HSS : Hid ((sha bs).map bV = s.bytes.map bV) := Lib.hid (by rw [hs]; rfl)
              have hO : wr.heap[w.heap.size]? = some (.cells (List.replicate 32 (bV 0)).toArray 44 (0, 0)) := by rw [hgr.block _ (by omega) (fun e => by have := Option.some.inj e; omega)]; exact HOUT.out
              have hBw : Below w.heap.size w wr := HB0.out.grown hgr (by have := HB0.out.size; omega) (fun k hk => by cases hk; omega)
              have hHw : H < wr.heap.size := (Array.getElem?_eq_some_iff.1 hrow).1
              have HROW := Lib.hid hrow
              have HO := Lib.hid hO
              have HBW := Lib.hid hBw
              clear hrow hgr hs hjn hO hBw hj hlt HMG HKC HHH HOUT HB0
              obtain ⟨wo, rfl⟩ : ∃ wo : World, wo = wr := ⟨_, rfl⟩
              obtain ⟨Z, hZ⟩ : ∃ Z, Z = (List.replicate 32 (bV 0)).toArray := ⟨_, rfl⟩
              go_wp2_with fail
              go_loopw [22] (fun i w' => OtInv s wo i w') (fun i _ => 32 - (intOf i).toNat)
              case atStart => exact ⟨0, by omega, rfl, by rw [heap_alloc_new]; rfl, (Below.refl _ _).alloc (Nat.le_refl _) _⟩
              case round =>
                obtain ⟨q, hq, rfl, hrow, hbel⟩ := hrel
                by_cases hlt : q < 32
                · obtain ⟨x, hx⟩ : ∃ x, s.list.getD (q / 4) 0 = x := ⟨_, rfl⟩
                  obtain ⟨d, hd⟩ : ∃ d, d = q / 4 := ⟨_, rfl⟩
                  obtain ⟨e, he⟩ : ∃ e, e = q % 4 := ⟨_, rfl⟩
                  obtain ⟨y, hy⟩ : ∃ y, s.bytes.getD q 0 = y := ⟨_, rfl⟩
                  have hby := out_byte s q hlt
                  rw [hx, hy, ← he] at hby
                  have hv : IntKind.u8.wrap (wv x / 2 ^ (24 - 8 * e)) = bv y := by rw [wv_shr x _ (by omega), bv_wv, hby]
                  have hv' : wv x / 2 ^ (24 - 8 * e) % 256 = bv y := by rw [← hv, IntKind.wrap_u8']
                  have t1 : (q : Int).tdiv 4 = (d : Int) := by rw [Int.tdiv_eq_ediv_of_nonneg (by omega)]; omega
                  have t2 : (q : Int) / 4 = (d : Int) := by omega
                  have t3 : (q : Int).tmod 4 = (e : Int) := by rw [Int.tmod_eq_emod_of_nonneg (by omega)]; omega
                  have t4 : (q : Int) % 4 = (e : Int) := by omega
                  have t5 : 24 - 8 * (e : Int) = ((24 - 8 * e : Nat) : Int) := by omega
                  have he3 : e ≤ 3 := by omega
                  have hd8 : d < 8 := by omega
                  have cx : wr.cell? ⟨H, d, none⟩ = some (.int .u32 (wv x)) := by
                    rw [hbel.cell (p := ⟨H, d, none⟩) hHw, cell_of_row _ _ _ _ _ _ HROW.out, St.cells_list, wV_get _ _ (by rw [St.list_length]; exact hd8), hd, hx]
                  have c0 : wr.cell? ⟨wo.heap.size, q, none⟩ = some (bV 0) := by rw [cell_of_row _ _ _ _ _ _ hrow]; exact otL_get s q hlt
                  have z0 : wr.frozen? ⟨wo.heap.size, q, none⟩ = false := frozen_of_row _ _ _ _ _ hrow
                  have HSET : Hid ((otL s q).set q (bV y) = otL s (q + 1)) := Lib.hid (by rw [← hy]; exact otL_set s q hlt)
                  have HR := Lib.hid hrow
                  have HW := Lib.hid hbel
                  clear hrow hbel hx hy hby hd he
                  go_wp2_with fail
                  go_roundw
                  case rel =>
                    refine ⟨q + 1, by omega, by go_num, ?_, HW.out.setCell (Nat.le_refl _) _⟩
                    rw [heap_setCell_same _ _ q _ _ _ HR.out, List.setIfInBounds_toArray]
                    have h := HSET.out
                    unfold bV at h
                    rw [h]
                  case measure => simp [intOf]; omega
                · have hq32 : q = 32 := by omega
                  have hge : ¬ (q : Int) < 32 := by omega
                  rw [hq32] at hrow
                  have e32 : otL s 32 = s.bytes.map bV := by unfold otL; rw [List.take_of_length_le (Nat.le_of_eq (bytes_length s)), List.replicate_zero, List.append_nil]
                  rw [e32] at hrow
                  have hwo : w.heap.size < wo.heap.size := by omega
                  have hO : wr.heap[w.heap.size]? = some (.cells (List.replicate 32 (bV 0)).toArray 44 (0, 0)) := by rw [hbel.block _ hwo]; exact HO.out
                  have hB : Below w.heap.size w wr := HBW.out.trans (hbel.mono (by omega))
                  have hl : (s.bytes.map bV).toArray.size = 32 := by simp [bytes_length]
                  have HR := Lib.hid hrow
                  have HO2 := Lib.hid hO
                  have HB2 := Lib.hid hB
                  have HL := Lib.hid hl
                  clear hrow hbel hq32 hq hlt e32 hO hB hl HO HBW
                  go_wp2_with ((with_reducible show wpList _ _ _ _ _ _); first | (refine wpList_load_row rfl 44 (.tmp 21) rfl wo.heap.size rfl 44 (s.bytes.map bV).toArray (0, 0) (.array 32 5) HR.out Tryz.underlying44 rfl (by rw [HL.out]; kernel_rfl) ?_; go_frame) | (refine wpList_store_row rfl 44 (.tmp 2) (.tmp 281) rfl w.heap.size (s.bytes.map bV).toArray rfl rfl 44 _ HO2.out (by rw [HL.out]; kernel_rfl) (by rw [HL.out]; rfl) (bV_one _) ?_; go_frame))
                  refine bodyPost_ret (results_cell_row rfl _ _ w.heap.size 44 (s.bytes.map bV).toArray (0, 0) (.array 32 5) rfl (setRow_heap _ _ _ _ _ _ HO2.out) Tryz.underlying44 rfl (by rw [HL.out]; kernel_rfl)) rfl ⟨by rw [HSS.out], below_setRow HB2.out (Nat.le_refl _) _⟩
end Go.Proofs.YtckkcpplanfmhaaGreatDoor.Sha
