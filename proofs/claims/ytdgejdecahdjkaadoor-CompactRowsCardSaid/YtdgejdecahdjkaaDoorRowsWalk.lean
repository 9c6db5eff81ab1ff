/-
  The statement on numbers and bytes, written one behind the other and read one by one, answers true. Conditions: the numbers and the bytes lie where the slices say; the three errors are there.
-/
import Derived.Test.YtdgejdecahdjkaaDoorCmpFirst
import Derived.Test.YtdgejdecahdjkaaDoorRefSameB
import Derived.Test.YtdgejdecahdjkaaDoorNumMath
namespace Go.Proofs.YtdgejdecahdjkaaDoor.Sha
open Go Go.RowKit

/-- What is written at place i. -/
def encI (i x : Nat) : List UInt8 := if i % 3 = 0 then putL x else if i % 3 = 1 then leB (x % 4294967296) 4 else leB x 8
/-- What is written from place i on. -/
def encF : Nat → List Nat → List UInt8
  | _, [] => []
  | i, x :: l => encI i x ++ encF (i + 1) l
theorem encF_snoc (x : Nat) : ∀ (l : List Nat) (i : Nat), encF i (l ++ [x]) = encF i l ++ encI (i + l.length) x
  | [], i => by simp [encF]
  | y :: l, i => by
    simp only [List.cons_append, encF, encF_snoc x l (i + 1), List.append_assoc, List.length_cons]
    rw [show i + 1 + l.length = i + (l.length + 1) by omega]
theorem encI_len (i x : Nat) : (encI i x).length ≤ 9 := by
  unfold encI
  split
  · rw [putL_length]; exact (lenN_bd x).2
  · split <;> rw [leB_length] <;> omega
theorem encF_len : ∀ (l : List Nat) (i : Nat), (encF i l).length ≤ 9 * l.length
  | [], _ => by simp [encF]
  | x :: l, i => by
    have h1 := encI_len i x
    have h2 := encF_len l (i + 1)
    simp only [encF, List.length_append, List.length_cons]
    omega
theorem encF_take {l : List Nat} {k x : Nat} (hk : k < l.length) (hx : x = l.getD k 0) : encF 0 (l.take (k + 1)) = encF 0 (l.take k) ++ encI k x := by
  have e : l[k] = x := by rw [hx]; simp [List.getD, List.getElem?_eq_getElem hk]
  rw [List.take_succ_eq_append_getElem hk, encF_snoc, e, List.length_take, Nat.min_eq_left (by omega), Nat.zero_add]
theorem encF_drop {l : List Nat} {k x : Nat} (hk : k < l.length) (hx : x = l.getD k 0) : encF k (l.drop k) = encI k x ++ encF (k + 1) (l.drop (k + 1)) := by
  have e : l[k] = x := by rw [hx]; simp [List.getD, List.getElem?_eq_getElem hk]
  rw [List.drop_eq_getElem_cons hk, e]
  rfl
theorem srcU_cells {w : World} {sq : Option Addr} {m cq : Nat} {l : List Nat} (h : SrcU w (.slice sq m cq) l) (h0 : 0 < m) : ∃ bb off, sq = some ⟨bb, off, none⟩ ∧ m ≤ cq ∧ bb < w.heap.size ∧ ∀ j, j < l.length → w.cell? ⟨bb, off + j, none⟩ = some (.int .u64 (l.getD j 0 : Nat)) := by
  rcases h with ⟨sp', cap', hv, rfl⟩ | ⟨h1, bb, off, cap', hv, hc, hcell⟩
  · cases hv; omega
  · cases hv
    exact ⟨bb, off, rfl, hc, World.block_lt_of_cell? w _ (hcell 0 h1), hcell⟩
def RwInv (l : List Nat) (w : World) (vb vi : Value) (wr : World) : Prop :=
  ∃ k nb : Nat, k ≤ l.length ∧ vi = .int .i64 k ∧ wr.ownsRow w.heap.size 5 1 vb nb ((encF 0 (l.take k)).map bV) ∧ Below w.heap.size w wr
theorem rw_next {l : List Nat} {w wr w' : World} {k c x y : Nat} {v : Value} {cs : List UInt8} (hk : k < l.length) (hx : x = l.getD k 0) (hb : Below w.heap.size w wr) (he : encI k x = cs)
    (h : NewB wr w' c y (encF 0 (l.take k) ++ cs)) (hv : v = .slice (some ⟨wr.heap.size, 0, none⟩) c y) : RwInv l w v (.int .i64 ((k + 1 : Nat) : Int)) w' := by
  subst hv
  refine ⟨k + 1, c, by omega, rfl, ?_, hb.trans (h.2.mono hb.size)⟩
  rw [encF_take hk hx, he]
  exact own_base h.1 hb.size
def RrInv (E : Nat → Addr) (m : Nat) (l : List Nat) (bs : List UInt8) (W : World) (r : Nat) (vi : Value) (wr : World) : Prop :=
  ∃ k : Nat, k ≤ l.length ∧ vi = .int .i64 k ∧ RS E m W wr r (encF k (l.drop k) ++ bs) 0

set_option maxHeartbeats 4000000 in
set_option maxRecDepth 100000 in
theorem rows_main (E : Nat → Addr) (l : List Nat) (bs : List UInt8) (sp sq : Option Addr) (n m cap cq : Nat) (w : World) (hE : Er w E) (hs : SrcB w (.slice sp n cap) bs) (hu : SrcU w (.slice sq m cq) l) (hx : ∀ j, l.getD j 0 ≤ 18446744073709551615) (hn0 : n ≤ 9223372036854775807) (hm0 : m ≤ 9223372036854775807) :
    Calls Tryd.prog 5 #[.slice sq m cq, .slice sp n cap] w fun e w' => e = .returned (.bool true) ∧ Below w.heap.size w w' := by
  have HER := Lib.hid hE
  have HS := Lib.hid hs
  have HU := Lib.hid hu
  have HX := Lib.hid hx
  have HN := Lib.hid hs.le.1
  have HM := Lib.hid hu.len
  obtain ⟨i0, hi, hz0, hz1, hz2⟩ := info_parts info_u8
  clear hE hs hu hx
  by_cases hm : m ≤ 30
  · by_cases hn : n ≤ 30
    · have c1 : ¬ (30 : Int) < (m : Int) := by omega
      have c2 : ¬ (30 : Int) < (n : Int) := by omega
      have d1 : decide ((30 : Int) < (m : Int)) = false := by simp; omega
      have d2 : decide ((30 : Int) < (n : Int)) = false := by simp; omega
      have HNI : Hid ((((bs.length : Nat) : Int)) = (n : Int)) := by show _ = _; rw [HN.out]
      go_enter Tryd.func5, Tryd.ntmps5
      go_wp2_with fail
      refine (first2_any _).mono ?_
      rintro e w1 ⟨rfl, hb1⟩
      have HB1 := Lib.hid hb1
      clear hb1
      go_wp2_with fail
      clear c1 c2 d1 d2
      go_loopw [6, 7] (fun vb vi wr => RwInv l w vb vi wr) (fun _ vi _ => m - (intOf vi).toNat)
      case atStart => exact ⟨0, 0, by omega, rfl, World.ownsRow_nil w1 _ _ _, HB1.out⟩
      case round =>
        clear HB1
        obtain ⟨k, nb, hk, rfl, hown, hb⟩ := hrel
        rw [← HM.out] at hk
        by_cases hlt : k < m
        · obtain ⟨bb, off, hsq, hcq, hbb, hcell⟩ := srcU_cells HU.out (by omega)
          subst hsq
          obtain ⟨spb, nb', capb, rfl, hnb, -⟩ := (src_own hown).shape'
          obtain ⟨x, hxk⟩ : ∃ x, x = l.getD k 0 := ⟨_, rfl⟩
          have ck : wr.cell? ⟨bb, off + k, none⟩ = some (.int .u64 (x : Nat)) := by rw [hb.cell (p := ⟨bb, off + k, none⟩) hbb, hxk]; exact hcell k (by rw [← HM.out]; exact hlt)
          have hkl : k < l.length := by rw [← HM.out]; exact hlt
          have hlen := encF_len (l.take k) 0
          rw [List.length_take] at hlen
          have hnb2 : nb' ≤ 270 := by omega
          have SB := Lib.hid (src_own hown)
          have HB := Lib.hid hb
          have HK := Lib.hid (And.intro hkl hxk)
          have hx64 : x ≤ 18446744073709551615 := by rw [hxk]; exact HX.out k
          have HX6 := Lib.hid hx64
          clear hown hb hcell hxk hkl hlen hnb hx64
          by_cases h3 : k % 3 = 0
          · have e1 : (k : Int) % 3 = 0 := by omega
            have e2 : (k : Int).tmod 3 = 0 := by rw [Int.tmod_eq_emod_of_nonneg (by omega)]; exact e1
            have HI : Hid (encI k x = putL x) := by show _ = _; unfold encI; rw [if_pos h3]
            clear h3
            go_wp2_with (go_at_call 8; refine (put_any _ spb nb' capb x _ SB.out (by omega)).mono ?_; rintro e w2 ⟨rfl, h2⟩; have H2 := Lib.hid h2; clear h2)
            go_roundw
            case rel => exact rw_next HK.out.1 HK.out.2 HB.out HI.out H2.out rfl
            case measure => simp [intOf]; omega
          · by_cases h4 : k % 3 = 1
            · have e1 : (k : Int) % 3 = 1 := by omega
              have e2 : (k : Int).tmod 3 = 1 := by rw [Int.tmod_eq_emod_of_nonneg (by omega)]; exact e1
              obtain ⟨y, hy⟩ : ∃ y, y = x % 4294967296 := ⟨_, rfl⟩
              have hyi : (x : Int) % 4294967296 = (y : Int) := by omega
              have hy2 : y ≤ 4294967295 := by omega
              have HI : Hid (encI k x = leB y 4) := by show _ = _; unfold encI; rw [if_neg h3, if_pos h4, hy]
              clear h3 h4 hy
              go_wp2_with (go_at_call 17; refine (four_any _ spb nb' capb y _ SB.out (by omega) hy2).mono ?_; rintro e w2 ⟨rfl, h2⟩; have H2 := Lib.hid h2; clear h2)
              go_roundw
              case rel => exact rw_next HK.out.1 HK.out.2 HB.out HI.out H2.out rfl
              case measure => simp [intOf]; omega
            · have e1 : (k : Int) % 3 = 2 := by omega
              have e2 : (k : Int).tmod 3 = 2 := by rw [Int.tmod_eq_emod_of_nonneg (by omega)]; exact e1
              have HI : Hid (encI k x = leB x 8) := by show _ = _; unfold encI; rw [if_neg h3, if_neg h4]
              clear h3 h4
              go_wp2_with (go_at_call 18; refine (eight_any _ spb nb' capb x _ SB.out (by omega)).mono ?_; rintro e w2 ⟨rfl, h2⟩; have H2 := Lib.hid h2; clear h2)
              go_roundw
              case rel => exact rw_next HK.out.1 HK.out.2 HB.out HI.out H2.out rfl
              case measure => simp [intOf]; omega
        · have hkm : k = m := by omega
          have hge : ¬ (k : Int) < (m : Int) := by omega
          rw [hkm, List.take_of_length_le (by rw [← HM.out]; exact Nat.le_refl _)] at hown
          obtain rfl := own_len hown
          have HO := Lib.hid hown
          have HB := Lib.hid hb
          have hlen := encF_len l 0
          rw [← HM.out] at hlen
          have HLE : Hid ((encF 0 l).length ≤ 270) := by show _ ≤ _; omega
          clear hown hb hkm hlen hlt
          go_wp2_with (at_builtin; refine wpList_append_any _ rfl _ _ 23 rfl w.heap.size 5 i0 Tryd.underlying23 hi hz0 hz1 hz2 _ (encF 0 l).length _ rfl HO.out (.slice sp n cap) bs rfl (HS.out.below HB.out) (by have := HN.out; have := HLE.out; omega) HB.out.size ?_; intro v4 w4 ho4 hg4; go_frame)
          have HB4 := Lib.hid (own_grown HB.out (Nat.le_refl _) HB.out.size HO.out hg4.out)
          have S4 : Hid (SrcB w4 v4 (encF 0 l ++ bs)) := src_own (n := (encF 0 l).length + bs.length) (by rw [List.map_append]; exact ho4.out)
          clear ho4 hg4 HO HB
          refine (read_any E (encF 0 l ++ bs) v4 _ S4.out (by have h1 := HLE.out; have h2 := HN.out; rw [List.length_append]; omega)).mono ?_
          rintro e w5 ⟨mm, r, rfl, h5⟩
          have RR := Lib.hid (h5.rs HB4.out)
          clear h5 HB4 S4
          go_wp2_with fail
          go_loopw [9] (fun vi wr => RrInv E mm l bs w r vi wr) (fun vi _ => m - (intOf vi).toNat)
          case atStart => exact ⟨0, by omega, rfl, RR.out⟩
          case round =>
            clear RR HLE
            obtain ⟨k, hk, rfl, hr⟩ := hrel
            rw [← HM.out] at hk
            by_cases hlt : k < m
            · obtain ⟨bb, off, hsq, hcq, hbb, hcell⟩ := srcU_cells HU.out (by omega)
              subst hsq
              obtain ⟨x, hxk⟩ : ∃ x, x = l.getD k 0 := ⟨_, rfl⟩
              have ck : wr.cell? ⟨bb, off + k, none⟩ = some (.int .u64 (x : Nat)) := by rw [hr.2.1.cell (p := ⟨bb, off + k, none⟩) hbb, hxk]; exact hcell k (by rw [← HM.out]; exact hlt)
              have CKD : Hid (wr.drew.cell? ⟨bb, off + k, none⟩ = some (.int .u64 (x : Nat))) := ck
              have HNE : Hid (some bb ≠ some r) := fun e => by have := Option.some.inj e; have := hr.2.2; omega
              have hkl : k < l.length := by rw [← HM.out]; exact hlt
              rw [encF_drop hkl hxk, List.append_assoc] at hr
              have hx64 : x ≤ 18446744073709551615 := by rw [hxk]; exact HX.out k
              have HX6 := Lib.hid hx64
              have HK : Hid (k + 1 ≤ l.length) := hkl
              have p0 : 0 ≤ (k : Int) := by omega
              have q0 : (k : Int) < (m : Int) := by omega
              have hrd := hr.keep (Below.refl wr.heap.size wr).drew
              clear hcell hxk hkl hx64 hr
              by_cases h3 : k % 3 = 0
              · have e1 : (k : Int) % 3 = 0 := by omega
                have e2 : (k : Int).tmod 3 = 0 := by rw [Int.tmod_eq_emod_of_nonneg (by omega)]; exact e1
                rw [show encI k x = putL x by unfold encI; rw [if_pos h3]] at hrd
                have RD := Lib.hid hrd
                clear h3 hrd
                go_wp2_with fail
                go_region_with (go_at_call 12; refine (num_put x HX6.out (RD.out.er HER.out) RD.out.1).mono ?_; rintro e w2 ⟨rfl, i2, g2⟩; have ck2 := g2.cell CKD.out HNE.out; have R2 := Lib.hid (RD.out.step i2 g2); clear i2 g2)
                all_goals
                  go_wp2_with fail
                  go_roundw
                  case rel => exact ⟨k + 1, HK.out, by go_num, R2.out⟩
                  case measure => simp [intOf]; omega
              · by_cases h4 : k % 3 = 1
                · have e1 : (k : Int) % 3 = 1 := by omega
                  have e2 : (k : Int).tmod 3 = 1 := by rw [Int.tmod_eq_emod_of_nonneg (by omega)]; exact e1
                  obtain ⟨y, hy⟩ : ∃ y, y = x % 4294967296 := ⟨_, rfl⟩
                  have hyi : (x : Int) % 4294967296 = (y : Int) := by omega
                  have hy2 : y ≤ 4294967295 := by omega
                  rw [show encI k x = leB y 4 by unfold encI; rw [if_neg h3, if_pos h4, hy]] at hrd
                  have RD := Lib.hid hrd
                  clear h3 h4 hy hrd
                  go_wp2_with fail
                  go_region_with (go_at_call 20; refine (four_put y hy2 (RD.out.er HER.out) RD.out.1).mono ?_; rintro e w2 ⟨rfl, i2, g2⟩; have ck2 := g2.cell CKD.out HNE.out; have R2 := Lib.hid (RD.out.step i2 g2); clear i2 g2)
                  all_goals
                    go_wp2_with fail
                    go_roundw
                    case rel => exact ⟨k + 1, HK.out, by go_num, R2.out⟩
                    case measure => simp [intOf]; omega
                · have e1 : (k : Int) % 3 = 2 := by omega
                  have e2 : (k : Int).tmod 3 = 2 := by rw [Int.tmod_eq_emod_of_nonneg (by omega)]; exact e1
                  rw [show encI k x = leB x 8 by unfold encI; rw [if_neg h3, if_neg h4]] at hrd
                  have RD := Lib.hid hrd
                  clear h3 h4 hrd
                  go_wp2_with fail
                  go_region_with (go_at_call 19; refine (eight_put x HX6.out (RD.out.er HER.out) RD.out.1).mono ?_; rintro e w2 ⟨rfl, i2, g2⟩; have ck2 := g2.cell CKD.out HNE.out; have R2 := Lib.hid (RD.out.step i2 g2); clear i2 g2)
                  all_goals
                    go_wp2_with fail
                    go_roundw
                    case rel => exact ⟨k + 1, HK.out, by go_num, R2.out⟩
                    case measure => simp [intOf]; omega
            · have hkm : k = m := by omega
              have hge : ¬ (k : Int) < (m : Int) := by omega
              rw [hkm, List.drop_of_length_le (by rw [← HM.out]; exact Nat.le_refl _)] at hr
              change RS E mm w wr r bs 0 at hr
              have RE := Lib.hid hr
              clear hr hkm hlt
              go_wp2_with fail
              refine (left_any E mm bs 0 r _ RE.out.1).mono ?_
              rintro e w' ⟨rfl, rfl⟩
              rw [HNI.out]
              go_wp2_with fail
              refine (bytes_is E mm (n : Int) n (by omega) bs bs [] 0 0 r _ (RE.out.er HER.out) RE.out.1 (by rw [takeL_ok n bs (by rw [HN.out]; exact Nat.le_refl _), List.take_of_length_le (by rw [HN.out]; exact Nat.le_refl _), List.drop_of_length_le (by rw [HN.out]; exact Nat.le_refl _)]) (by omega) (by have := HN.out; omega)).mono ?_
              rintro e w6 ⟨v6, rfl, o6, i6, g6⟩
              have R6 := Lib.hid (RE.out.step i6 g6)
              have S6 := Lib.hid (src_own o6)
              clear o6 i6 g6 RE
              go_wp2_with fail
              refine (same_bytes_t bs v6 (.slice sp n cap) _ S6.out (HS.out.below R6.out.2.1) (by have := HN.out; omega)).mono ?_
              rintro e w7 ⟨rfl, hb⟩
              have R7 := Lib.hid (R6.out.keep hb)
              clear hb R6 S6
              go_wp2_with fail
              refine (err_fine R7.out.1).mono ?_
              rintro e w' ⟨rfl, rfl⟩
              go_wp2_with fail
              refine (left_none R7.out.1).mono ?_
              rintro e w' ⟨rfl, rfl⟩
              go_wp2_with fail
              go_ret
              exact ⟨rfl, R7.out.2.1⟩
    · have c1 : ¬ (30 : Int) < (m : Int) := by omega
      have c2 : (30 : Int) < (n : Int) := by omega
      have d1 : decide ((30 : Int) < (m : Int)) = false := by simp; omega
      have d2 : decide ((30 : Int) < (n : Int)) = true := by simp; omega
      go_enter Tryd.func5, Tryd.ntmps5
      go_wp2_with fail
      refine (first2_any _).mono ?_
      rintro e w1 ⟨rfl, hb1⟩
      have HB1 := Lib.hid hb1
      clear hb1
      go_wp2_with fail
      go_ret
      exact ⟨rfl, HB1.out⟩
  · have c1 : (30 : Int) < (m : Int) := by omega
    have d1 : decide ((30 : Int) < (m : Int)) = true := by simp; omega
    go_enter Tryd.func5, Tryd.ntmps5
    go_wp2_with fail
    refine (first2_any _).mono ?_
    rintro e w1 ⟨rfl, hb1⟩
    have HB1 := Lib.hid hb1
    clear hb1
    go_wp2_with fail
    go_ret
    exact ⟨rfl, HB1.out⟩
end Go.Proofs.YtdgejdecahdjkaaDoor.Sha
