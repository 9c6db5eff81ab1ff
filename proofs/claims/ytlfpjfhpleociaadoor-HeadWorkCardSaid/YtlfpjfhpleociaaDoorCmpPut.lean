/-
  compact.Len, withRoom, lowestFirst, Put, Four and Eight answer what the chapter says, in new memory; nothing that was there turns. Conditions: fewer than 2^46 bytes, which lie where the slice says; numbers of 64 bits.
-/
import Derived.Test.YtlfpjfhpleociaaDoorCmpLib
namespace Go.Proofs.YtlfpjfhpleociaaDoor.Sha
open Go Go.RowKit
theorem below_made {w w' : World} (h : w.grownBy w' none) : Below w.heap.size w w' := (Below.refl _ _).grown h (Nat.le_refl _) (fun k hk => by cases hk)
/-- New memory: k bytes of room c, which read as bs. -/
def NewB (w w' : World) (k c : Nat) (bs : List UInt8) : Prop :=
  w'.ownsRow w.heap.size 5 1 (.slice (some ⟨w.heap.size, 0, none⟩) k c) k (bs.map bV) ∧ Below w.heap.size w w'
set_option maxRecDepth 100000 in
theorem room_any (bs : List UInt8) (sp : Option Addr) (n cap m : Nat) (km : Int) (hkm : km = (m : Int)) (w : World) (hs : SrcB w (.slice sp n cap) bs) (hn : n ≤ 70368744177664) (hm : m ≤ 9) :
    Calls Tryd.prog 26 #[.slice sp n cap, .int .i64 km] w fun e w' => e = .returned (.slice (some ⟨w.heap.size, 0, none⟩) n (n + m)) ∧ NewB w w' n (n + m) bs := by
  subst hkm
  obtain ⟨i0, hi, hz0, hz1, hz2⟩ := info_parts info_u8
  have hl := hs.le.1
  have HL := Lib.hid hl
  have HS := Lib.hid hs
  clear hl hs
  go_enter Tryd.func26, Tryd.ntmps26
  go_wp2_with (first | (at_make; refine wpList_make_own _ rfl _ _ 28 rfl w.heap.size 5 i0 (.int .u8 0) 1 Tryd.underlying28 hi hz0 hz1 _ _ _ (n + m) rfl rfl (by omega) (by rw [hz2]; omega) (by unfold maxLen; omega) (Nat.le_refl _) ?_; intro w2 hown hgrow; have HO := Lib.hid hown; have HB := Lib.hid (below_made hgrow); clear hown hgrow; go_frame) | (at_builtin; refine wpList_append_src _ rfl _ _ 28 rfl w.heap.size 5 i0 Tryd.underlying28 hi hz1 w.heap.size 0 (n + m) [] rfl HO.out (.slice sp n cap) bs rfl (HS.out.below HB.out) (by have := HL.out; omega) ?_; intro w3 HO3 HG3; go_frame))
  go_ret
  have e : 0 + bs.length = n := by rw [HL.out]; omega
  refine ⟨by rw [e]; rfl, ?_, (HB.out).grown HG3.out HB.out.size (fun k hk => by cases hk; exact Nat.le_refl _)⟩
  have h := HO3.out
  rw [e] at h
  exact h
def LfInv (n width k0 g cap : Nat) (xs : List Value) (w : World) (vb vn vi : Value) (wr : World) : Prop :=
  ∃ k : Nat, k ≤ width ∧ vi = .int .i64 k ∧ vn = .int .u64 ((n / 256 ^ k : Nat) : Int) ∧ vb = .slice (some ⟨g, 0, none⟩) (k0 + k) cap ∧ wr.ownsRow g 5 1 vb (k0 + k) (xs ++ (leB n k).map bV) ∧ Below g w wr
set_option maxHeartbeats 400000 in
set_option maxRecDepth 100000 in
theorem lowest_any (n width g k0 cap : Nat) (kw : Int) (hkw : kw = (width : Int)) (xs : List Value) (w : World) (hw : width ≤ 8) (hcap : k0 + width ≤ cap) (hc2 : cap ≤ 70368744177680) (hg : g < w.heap.size)
    (ho : w.ownsRow g 5 1 (.slice (some ⟨g, 0, none⟩) k0 cap) k0 xs) :
    Calls Tryd.prog 25 #[.slice (some ⟨g, 0, none⟩) k0 cap, .int .u64 n, .int .i64 kw] w fun e w' =>
      e = .returned (.slice (some ⟨g, 0, none⟩) (k0 + width) cap) ∧ w'.ownsRow g 5 1 (.slice (some ⟨g, 0, none⟩) (k0 + width) cap) (k0 + width) (xs ++ (leB n width).map bV) ∧ Below g w w' := by
  subst hkw
  obtain ⟨i0, hi, hz0, hz1, hz2⟩ := info_parts info_u8
  have HO := Lib.hid ho
  clear ho
  go_enter Tryd.func25, Tryd.ntmps25
  go_wp2_with fail
  go_loopw [0, 1, 8] (fun vb vn vi wr => LfInv n width k0 g cap xs w vb vn vi wr) (fun _ _ i _ => width - (intOf i).toNat)
  case atStart => exact ⟨0, by omega, rfl, by simp, rfl, by simpa [leB] using HO.out, Below.refl _ _⟩
  case round =>
    obtain ⟨k, hk, rfl, rfl, rfl, hown, hb⟩ := hrel
    have HO := Lib.hid hown
    have HB := Lib.hid hb
    clear hown hb
    by_cases hlt : k < width
    · obtain ⟨q, hq⟩ : ∃ q, q = n / 256 ^ k := ⟨_, rfl⟩
      have hq2 : n / 256 ^ (k + 1) = q / 256 := by rw [hq, pow_next, Nat.div_div_eq_div_mul]
      have hby : (q : Int) % 256 = bv (UInt8.ofNat q) := by rw [← bv_of, IntKind.wrap_u8']
      obtain ⟨c, hc⟩ : ∃ c, c = UInt8.ofNat q := ⟨_, rfl⟩
      have HT : Hid ((leB n (k + 1)).map bV = (leB n k).map bV ++ [.int .u8 (bv c)]) := by
        show _ = _
        rw [hc, hq, leB, List.map_append]
        rfl
      rw [← hq]
      rw [← hc] at hby
      have HQ2 := Lib.hid hq2
      clear hq hq2 hc
      go_wp2_with (at_builtin; refine wpList_append_fits _ rfl _ _ 28 rfl g 5 i0 1 Tryd.underlying28 hi hz1 g (k0 + k) cap _ rfl (HO.out.alloc _) ⟨wr.heap.size, 0, none⟩ 1 1 [.int .u8 (bv c)] rfl rfl (cell_one_new _ _ _) (one_u8 _) (by omega) ?_; intro w3 hown2 hgrow; have HO3 := Lib.hid hown2; have HG3 := Lib.hid hgrow; clear hown2 hgrow; go_frame)
      go_roundw
      case rel =>
        refine ⟨k + 1, by omega, by go_num, ?_, rfl, ?_, ?_⟩
        · rw [HQ2.out]; rfl
        · rw [HT.out, ← List.append_assoc]
          exact HO3.out
        · have h1 : g ≤ wr.heap.size := by have := HB.out.size; omega
          exact (HB.out.alloc h1 _).grown HG3.out (by simp; omega) (fun j hj => by cases hj; exact Nat.le_refl _)
      case measure => simp [intOf]; omega
    · have hkn : k = width := by omega
      subst hkn
      clear hlt
      go_wp2_with fail
      go_ret
      exact ⟨rfl, HO.out, HB.out⟩
theorem NewB.lt {w w1 : World} {n c : Nat} {bs : List UInt8} (h : NewB w w1 n c bs) : w.heap.size < w1.heap.size := by
  rcases h.1.2 with ⟨h', _⟩ | ⟨g, cap, cur, h', _, hg, _⟩
  · simp at h'
  · simp at h'
    rw [← h'.1] at hg
    exact (Array.getElem?_eq_some_iff.1 hg).1
theorem NewB.low {w w1 w2 : World} {n k c : Nat} {bs cs : List UInt8} (h : NewB w w1 n c bs) (hb : Below w.heap.size w1 w2) (ho : w2.ownsRow w.heap.size 5 1 (.slice (some ⟨w.heap.size, 0, none⟩) k c) k (bs.map bV ++ cs.map bV)) : NewB w w2 k c (bs ++ cs) :=
  ⟨by rw [List.map_append]; exact ho, h.2.trans hb⟩
set_option maxRecDepth 100000 in
theorem four_any (bs : List UInt8) (sp : Option Addr) (n cap x : Nat) (w : World) (hs : SrcB w (.slice sp n cap) bs) (hn : n ≤ 70368744177664) (hx : x ≤ 4294967295) :
    Calls Tryd.prog 17 #[.slice sp n cap, .int .u32 x] w fun e w' => e = .returned (.slice (some ⟨w.heap.size, 0, none⟩) (n + 4) (n + 4)) ∧ NewB w w' (n + 4) (n + 4) (bs ++ leB x 4) := by
  have HS := Lib.hid hs
  clear hs
  go_enter Tryd.func17, Tryd.ntmps17
  go_wp2_with (first | (go_at_call 26; refine (room_any bs sp n cap 4 4 rfl _ HS.out hn (by omega)).mono ?_; rintro e w1 ⟨rfl, hn1⟩; have HN1 := Lib.hid hn1; clear hn1) | (go_at_call 25; refine (lowest_any x 4 w.heap.size n (n + 4) 4 rfl (bs.map bV) _ (by omega) (by omega) (by omega) HN1.out.lt HN1.out.1).mono ?_; rintro e w2 ⟨rfl, ho, hb⟩; have HN2 := Lib.hid (HN1.out.low hb ho); clear ho hb))
  go_ret
  exact ⟨rfl, HN2.out⟩
end Go.Proofs.YtlfpjfhpleociaaDoor.Sha
