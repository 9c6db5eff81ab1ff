/-
  Texts of this proof joined into one file: TxSame, CmpPut, CmpSum, RefWire, RefBuf, Held. What each holds, and under which conditions, its own first sentence tells.
-/
import Derived.Maps.AppendAt
import Derived.Deep.RegionHeld3
import Derived.Test.YtdamhoagiooicaaDoorMg02
import Derived.Test.YtdamhoagiooicaaDoorMg01
/-
  The statements' own SameIn, SameOut tell whether two inputs, two outputs are the same. Nothing that was there turns. Conditions: digests of 32 bytes, keys that lie in memory, fewer than 2^46 bytes.
-/
namespace Go.Proofs.YtdamhoagiooicaaDoor.Sha
open Go Go.RowKit
theorem range_of_box {w : World} {g : Nat} {cs : List Value} {T : TypeId} {fr : Nat × Nat} (h : w.heap[g]? = some (.cells cs.toArray T fr)) : w.rangeAt g 0 cs := fun j v hj => by
  rw [Nat.zero_add, cell_of_row _ _ _ _ _ _ h, List.getElem?_toArray]
  exact hj
/-- Two boxes: what lies where. -/
theorem boxes2 (w : World) (x y : List Value) (T : TypeId) :
    Below w.heap.size w ((w.alloc (.cells x.toArray T (0, 0))).alloc (.cells y.toArray T (0, 0)))
    ∧ ((w.alloc (.cells x.toArray T (0, 0))).alloc (.cells y.toArray T (0, 0))).heap[w.heap.size]? = some (.cells x.toArray T (0, 0))
    ∧ ((w.alloc (.cells x.toArray T (0, 0))).alloc (.cells y.toArray T (0, 0))).heap[w.heap.size + 1]? = some (.cells y.toArray T (0, 0)) :=
  ⟨((Below.refl _ _).alloc (Nat.le_refl _) _).alloc (by simp) _, heap_alloc2_old _ _ _, heap_alloc2_new _ _ _⟩
/-- Are two inputs the same? -/
def sameIn (x y : TIn) : Bool := (decide (x.h = y.h) && decide (x.n = y.n)) && (decide (x.key = y.key) && decide (x.seq = y.seq))
def sameOut (x y : TOut) : Bool := decide (x.val = y.val) && decide (x.lock = y.lock)
theorem sameIn_iff (x y : TIn) : sameIn x y = true ↔ x = y := by
  obtain ⟨a, b, c, d⟩ := x
  obtain ⟨a', b', c', d'⟩ := y
  simp [sameIn, and_assoc]
theorem sameOut_iff (x y : TOut) : sameOut x y = true ↔ x = y := by
  obtain ⟨a, b⟩ := x
  obtain ⟨a', b'⟩ := y
  simp [sameOut]
set_option maxRecDepth 100000 in
theorem samein_any (x y : TIn) (kx ky : Value) (hx : InOk x) (hy : InOk y) (w : World) (k1 : KeyAt w kx x.key) (k2 : KeyAt w ky y.key) (hl : x.key.length ≤ 70368744177664) (b : Bool) (hb : b = sameIn x y) :
    Calls Tryd.prog 28 #[.agg (inL x kx).toArray, .agg (inL y ky).toArray] w fun e w' => e = .returned (.bool b) ∧ Below w.heap.size w w' := by
  obtain ⟨sx, cx, hkx⟩ := k1.2
  obtain ⟨sy, cy, hky⟩ := k2.2
  have hm : (ptL x.h x.n).length = 33 := by rw [ptL_length, hx.1]
  have hm' : (ptL y.h y.n).length = 33 := by rw [ptL_length, hy.1]
  have HM := Lib.hid hm
  have HM' := Lib.hid hm'
  have HX := Lib.hid hx
  have HY := Lib.hid hy
  have HB := Lib.hid hb
  have HKX := Lib.hid hkx
  have HKY := Lib.hid hky
  have K1 := Lib.hid k1
  have K2 := Lib.hid k2
  have HLN : Hid (x.key.length ≤ 70368744177680) := by show _ ≤ _; omega
  clear hx hy hb hm hm' hkx hky k1 k2 hl
  go_enter Tryd.func28, Tryd.ntmps28
  go_upto_region 1 with fail
  obtain ⟨B, F, F'⟩ := boxes2 w (inL x kx) (inL y ky) 46
  generalize hw1 : World.alloc _ _ = w1
  rw [hw1] at B F F'
  have B := Lib.hid B
  have F := Lib.hid F
  have F' := Lib.hid F'
  clear hw1
  go_wp2_with ((with_reducible show wpList _ _ _ _ _ _); first | (refine wpList_load_mid rfl 44 (.tmp 5) rfl w.heap.size 0 rfl (ptL x.h x.n) _ (in_pt (range_of_box F.out)) Tryd.underlying44 rfl (by rw [HM.out]; kernel_rfl) ?_; go_frame) | (refine wpList_load_mid rfl 44 (.tmp 7) rfl (w.heap.size + 1) 0 rfl (ptL y.h y.n) _ (in_pt (range_of_box F'.out)) Tryd.underlying44 rfl (by rw [HM'.out]; kernel_rfl) ?_; go_frame))
  refine (samept_any x.h y.h x.n y.n HX.out.1 HY.out.1 _ rfl _).mono ?_
  rintro e w2 ⟨rfl, hb2⟩
  have c1 : w2.cell? ⟨w.heap.size, 33, none⟩ = some (.slice sx x.key.length cx) := by have := in_key HX.out.1 (range_of_box (row_below F.out hb2)); rw [HKX.out, Nat.zero_add] at this; exact this
  have c2 : w2.cell? ⟨w.heap.size + 1, 33, none⟩ = some (.slice sy y.key.length cy) := by have := in_key HY.out.1 (range_of_box (row_below F'.out hb2)); rw [HKY.out, Nat.zero_add] at this; exact this
  have B2 := Lib.hid (B.out.trans (hb2.mono B.out.size))
  have F2 := Lib.hid (row_below F.out hb2)
  have F2' := Lib.hid (row_below F'.out hb2)
  clear hb2 F F' B
  obtain ⟨p, hp⟩ : ∃ p, p = (decide (x.h = y.h) && decide (x.n = y.n)) := ⟨_, rfl⟩
  rw [← hp]
  have HP := Lib.hid hp
  clear hp
  cases p
  · clear c1 c2
    go_wp2_with fail
    go_ret
    exact ⟨by rw [HB.out, sameIn, ← HP.out]; rfl, B2.out⟩
  · go_wp2_with fail
    have hs1 : SrcB w2 (.slice sx x.key.length cx) x.key := by rw [← HKX.out]; exact K1.out.1.below B2.out
    have hs2 : SrcB w2 (.slice sy y.key.length cy) y.key := by rw [← HKY.out]; exact K2.out.1.below B2.out
    refine (same_bytes_v x.key y.key _ _ _ w2 hs1 hs2 rfl HLN.out).mono ?_
    rintro e w3 ⟨rfl, hb3⟩
    have d1 : w3.cell? ⟨w.heap.size, 34, none⟩ = some (.int .u32 (x.seq : Int)) := by have := in_seq HX.out.1 (range_of_box (row_below F2.out hb3)); rw [Nat.zero_add] at this; exact this
    have d2 : w3.cell? ⟨w.heap.size + 1, 34, none⟩ = some (.int .u32 (y.seq : Int)) := by have := in_seq HY.out.1 (range_of_box (row_below F2'.out hb3)); rw [Nat.zero_add] at this; exact this
    have B3 := Lib.hid (B2.out.trans (hb3.mono B2.out.size))
    clear hb3 c1 c2 hs1 hs2
    obtain ⟨q, hq⟩ : ∃ q, q = decide (x.key = y.key) := ⟨_, rfl⟩
    rw [← hq]
    have HQ := Lib.hid hq
    clear hq
    cases q
    · clear d1 d2
      go_wp2_with fail
      go_ret
      exact ⟨by rw [HB.out, sameIn, ← HP.out, ← HQ.out]; rfl, B3.out⟩
    · go_wp2_with fail
      go_ret
      refine ⟨?_, B3.out⟩
      rw [HB.out, sameIn, ← HP.out, ← HQ.out]
      show Ending.returned (Value.bool ((x.seq : Int) == (y.seq : Int))) = _
      congr 2
      rw [Bool.eq_iff_iff]
      simp
      omega
set_option maxRecDepth 100000 in
theorem sameout_any (x y : TOut) (hx : OutOk x) (hy : OutOk y) (w : World) (b : Bool) (hb : b = sameOut x y) :
    Calls Tryd.prog 29 #[.agg (outL x).toArray, .agg (outL y).toArray] w fun e w' => e = .returned (.bool b) ∧ Below w.heap.size w w' := by
  have hm : (x.lock.map bV).length = 32 := by rw [List.length_map, hx.1]
  have hm' : (y.lock.map bV).length = 32 := by rw [List.length_map, hy.1]
  have HM := Lib.hid hm
  have HM' := Lib.hid hm'
  have HX := Lib.hid hx
  have HY := Lib.hid hy
  have HB := Lib.hid hb
  clear hx hy hb hm hm'
  go_enter Tryd.func29, Tryd.ntmps29
  go_upto_region 1 with fail
  obtain ⟨B, F, F'⟩ := boxes2 w (outL x) (outL y) 48
  generalize hw1 : World.alloc _ _ = w1
  rw [hw1] at B F F'
  have c1 : w1.cell? ⟨w.heap.size, 0, none⟩ = some (.int .u64 (x.val : Int)) := out_val (range_of_box F)
  have c2 : w1.cell? ⟨w.heap.size + 1, 0, none⟩ = some (.int .u64 (y.val : Int)) := out_val (range_of_box F')
  have B := Lib.hid B
  have F := Lib.hid F
  have F' := Lib.hid F'
  clear hw1
  by_cases hv : x.val = y.val
  · have ht : ((x.val : Int) == (y.val : Int)) = true := by rw [beq_iff_eq]; omega
    have HV := Lib.hid hv
    clear hv
    go_wp2_with ((with_reducible show wpList _ _ _ _ _ _); first | (refine wpList_load_midG 24 (.tmp 11) rfl w.heap.size 1 rfl (x.lock.map bV) _ (by have := out_lock (range_of_box F.out); rw [Nat.zero_add] at this; exact this) Tryd.underlying24 rfl (by rw [HM.out]; kernel_rfl) rfl ?_; go_frame) | (refine wpList_load_midG 24 (.tmp 13) rfl (w.heap.size + 1) 1 rfl (y.lock.map bV) _ (by have := out_lock (range_of_box F'.out); rw [Nat.zero_add] at this; exact this) Tryd.underlying24 rfl (by rw [HM'.out]; kernel_rfl) rfl ?_; go_frame))
    refine (same_b x.lock y.lock HX.out.1 HY.out.1 _ rfl _).mono ?_
    rintro e w2 ⟨rfl, hb2⟩
    have B2 := Lib.hid (B.out.trans (hb2.mono B.out.size))
    clear hb2 c1 c2
    go_wp2_with fail
    go_ret
    exact ⟨by rw [HB.out, sameOut, decide_eq_true HV.out, Bool.true_and]; rfl, B2.out⟩
  · have ht : ((x.val : Int) == (y.val : Int)) = false := by rw [beq_eq_false_iff_ne]; omega
    have HV := Lib.hid hv
    clear hv
    go_wp2_with fail
    go_ret
    exact ⟨by rw [HB.out, sameOut, decide_eq_false HV.out]; rfl, B.out⟩
end Go.Proofs.YtdamhoagiooicaaDoor.Sha

/-
  compact.Len, withRoom, lowestFirst, Put, Four and Eight answer what the chapter says, in new memory; nothing that was there turns. Conditions: fewer than 2^46 bytes, which lie where the slice says; numbers of 64 bits.
-/
namespace Go.Proofs.YtdamhoagiooicaaDoor.Sha
open Go Go.RowKit
set_option maxRecDepth 100000 in
theorem len_c (n : Nat) (w : World) :
    Calls Tryd.prog 52 #[.int .u64 n] w fun e w' => e = .returned (.int .i64 (lenN n)) ∧ w = w' := by
  by_cases h1 : n < 253
  · have e : lenN n = 1 := by unfold lenN; rw [if_pos h1]
    rw [e]
    go_enter Tryd.func52, Tryd.ntmps52
    go_wp2
    go_ret
    exact ⟨rfl, rfl⟩
  by_cases h2 : n ≤ 65535
  · have e : lenN n = 3 := by unfold lenN; rw [if_neg h1, if_pos h2]
    rw [e]
    clear e
    go_enter Tryd.func52, Tryd.ntmps52
    go_wp2
    go_ret
    exact ⟨rfl, rfl⟩
  by_cases h3 : n ≤ 4294967295
  · have e : lenN n = 5 := by unfold lenN; rw [if_neg h1, if_neg h2, if_pos h3]
    rw [e]
    clear e
    go_enter Tryd.func52, Tryd.ntmps52
    go_wp2
    go_ret
    exact ⟨rfl, rfl⟩
  · have e : lenN n = 9 := by unfold lenN; rw [if_neg h1, if_neg h2, if_neg h3]
    rw [e]
    clear e
    go_enter Tryd.func52, Tryd.ntmps52
    go_wp2
    go_ret
    exact ⟨rfl, rfl⟩
theorem len_is (n : Nat) (k : Int) (w : World) (hk : ((lenN n : Nat) : Int) = k) :
    Calls Tryd.prog 52 #[.int .u64 n] w fun e w' => e = .returned (.int .i64 k) ∧ w = w' := by
  subst hk
  exact len_c n w
theorem below_made {w w' : World} (h : w.grownBy w' none) : Below w.heap.size w w' := (Below.refl _ _).grown h (Nat.le_refl _) (fun k hk => by cases hk)
/-- New memory: k bytes of room c, which read as bs. -/
def NewB (w w' : World) (k c : Nat) (bs : List UInt8) : Prop :=
  w'.ownsRow w.heap.size 5 1 (.slice (some ⟨w.heap.size, 0, none⟩) k c) k (bs.map bV) ∧ Below w.heap.size w w'
set_option maxRecDepth 100000 in
theorem room_any (bs : List UInt8) (sp : Option Addr) (n cap m : Nat) (km : Int) (hkm : km = (m : Int)) (w : World) (hs : SrcB w (.slice sp n cap) bs) (hn : n ≤ 70368744177664) (hm : m ≤ 9) :
    Calls Tryd.prog 60 #[.slice sp n cap, .int .i64 km] w fun e w' => e = .returned (.slice (some ⟨w.heap.size, 0, none⟩) n (n + m)) ∧ NewB w w' n (n + m) bs := by
  subst hkm
  obtain ⟨i0, hi, hz0, hz1, hz2⟩ := info_parts info_u8
  have hl := hs.le.1
  have HL := Lib.hid hl
  have HS := Lib.hid hs
  clear hl hs
  go_enter Tryd.func60, Tryd.ntmps60
  go_wp2_with (first | (at_make; refine wpList_make_own _ rfl _ _ 25 rfl w.heap.size 5 i0 (.int .u8 0) 1 Tryd.underlying25 hi hz0 hz1 _ _ _ (n + m) rfl rfl (by omega) (by rw [hz2]; omega) (by unfold maxLen; omega) (Nat.le_refl _) ?_; intro w2 hown hgrow; have HO := Lib.hid hown; have HB := Lib.hid (below_made hgrow); clear hown hgrow; go_frame) | (at_builtin; refine wpList_append_src _ rfl _ _ 25 rfl w.heap.size 5 i0 Tryd.underlying25 hi hz1 w.heap.size 0 (n + m) [] rfl HO.out (.slice sp n cap) bs rfl (HS.out.below HB.out) (by have := HL.out; omega) ?_; intro w3 HO3 HG3; go_frame))
  go_ret
  have e : 0 + bs.length = n := by rw [HL.out]; omega
  refine ⟨by rw [e]; rfl, ?_, (HB.out).grown HG3.out HB.out.size (fun k hk => by cases hk; exact Nat.le_refl _)⟩
  have h := HO3.out
  rw [e] at h
  exact h
def LfInv (n width k0 g cap : Nat) (xs : List Value) (w : World) (vb vn vi : Value) (wr : World) : Prop :=
  ∃ k : Nat, k ≤ width ∧ vi = .int .i64 k ∧ vn = .int .u64 ((n / 256 ^ k : Nat) : Int) ∧ vb = .slice (some ⟨g, 0, none⟩) (k0 + k) cap ∧ wr.ownsRow g 5 1 vb (k0 + k) (xs ++ (leB n k).map bV) ∧ Below g w wr
set_option maxHeartbeats 400000 in
set_option maxRecDepth 100000 in
theorem lowest_any (n width g k0 cap : Nat) (kw : Int) (hkw : kw = (width : Int)) (xs : List Value) (w : World) (hw : width ≤ 8) (hcap : k0 + width ≤ cap) (hc2 : cap ≤ 70368744177680) (hg : g < w.heap.size)
    (ho : w.ownsRow g 5 1 (.slice (some ⟨g, 0, none⟩) k0 cap) k0 xs) :
    Calls Tryd.prog 59 #[.slice (some ⟨g, 0, none⟩) k0 cap, .int .u64 n, .int .i64 kw] w fun e w' =>
      e = .returned (.slice (some ⟨g, 0, none⟩) (k0 + width) cap) ∧ w'.ownsRow g 5 1 (.slice (some ⟨g, 0, none⟩) (k0 + width) cap) (k0 + width) (xs ++ (leB n width).map bV) ∧ Below g w w' := by
  subst hkw
  obtain ⟨i0, hi, hz0, hz1, hz2⟩ := info_parts info_u8
  have HO := Lib.hid ho
  clear ho
  go_enter Tryd.func59, Tryd.ntmps59
  go_wp2_with fail
  go_loopw [0, 1, 8] (fun vb vn vi wr => LfInv n width k0 g cap xs w vb vn vi wr) (fun _ _ i _ => width - (intOf i).toNat)
  case atStart => exact ⟨0, by omega, rfl, by simp, rfl, by simpa [leB] using HO.out, Below.refl _ _⟩
  case round =>
    obtain ⟨k, hk, rfl, rfl, rfl, hown, hb⟩ := hrel
    have HO := Lib.hid hown
    have HB := Lib.hid hb
    clear hown hb
    by_cases hlt : k < width
    · obtain ⟨q, hq⟩ : ∃ q, q = n / 256 ^ k := ⟨_, rfl⟩
      have hq2 : n / 256 ^ (k + 1) = q / 256 := by rw [hq, pow_next, Nat.div_div_eq_div_mul]
      have hby : (q : Int) % 256 = bv (UInt8.ofNat q) := by rw [← bv_of, IntKind.wrap_u8']
      obtain ⟨c, hc⟩ : ∃ c, c = UInt8.ofNat q := ⟨_, rfl⟩
      have HT : Hid ((leB n (k + 1)).map bV = (leB n k).map bV ++ [.int .u8 (bv c)]) := by
        show _ = _
        rw [hc, hq, leB, List.map_append]
        rfl
      rw [← hq]
      rw [← hc] at hby
      have HQ2 := Lib.hid hq2
      clear hq hq2 hc
      go_wp2_with (at_builtin; refine wpList_append_fits _ rfl _ _ 25 rfl g 5 i0 1 Tryd.underlying25 hi hz1 g (k0 + k) cap _ rfl (HO.out.alloc _) ⟨wr.heap.size, 0, none⟩ 1 1 [.int .u8 (bv c)] rfl rfl (cell_one_new _ _ _) (one_u8 _) (by omega) ?_; intro w3 hown2 hgrow; have HO3 := Lib.hid hown2; have HG3 := Lib.hid hgrow; clear hown2 hgrow; go_frame)
      go_roundw
      case rel =>
        refine ⟨k + 1, by omega, by go_num, ?_, rfl, ?_, ?_⟩
        · rw [HQ2.out]; rfl
        · rw [HT.out, ← List.append_assoc]
          exact HO3.out
        · have h1 : g ≤ wr.heap.size := by have := HB.out.size; omega
          exact (HB.out.alloc h1 _).grown HG3.out (by simp; omega) (fun j hj => by cases hj; exact Nat.le_refl _)
      case measure => simp [intOf]; omega
    · have hkn : k = width := by omega
      subst hkn
      clear hlt
      go_wp2_with fail
      go_ret
      exact ⟨rfl, HO.out, HB.out⟩
theorem NewB.lt {w w1 : World} {n c : Nat} {bs : List UInt8} (h : NewB w w1 n c bs) : w.heap.size < w1.heap.size := by
  rcases h.1.2 with ⟨h', _⟩ | ⟨g, cap, cur, h', _, hg, _⟩
  · simp at h'
  · simp at h'
    rw [← h'.1] at hg
    exact (Array.getElem?_eq_some_iff.1 hg).1
/-- One byte more. -/
theorem NewB.push {w w1 w3 : World} {n c : Nat} {bs : List UInt8} (x : UInt8) {o : Obj} (h : NewB w w1 n c bs) (ho : w3.ownsRow w.heap.size 5 1 (.slice (some ⟨w.heap.size, 0, none⟩) (n + 1) c) (n + 1) (bs.map bV ++ [.int .u8 (bv x)]))
    (hg : (w1.alloc o).grownBy w3 (some w.heap.size)) : NewB w w3 (n + 1) c (bs ++ [x]) := by
  refine ⟨by rw [List.map_append]; exact ho, (h.2.alloc h.2.size o).grown hg ?_ (fun j hj => by cases hj; exact Nat.le_refl _)⟩
  have := h.lt
  simp
  omega
theorem NewB.low {w w1 w2 : World} {n k c : Nat} {bs cs : List UInt8} (h : NewB w w1 n c bs) (hb : Below w.heap.size w1 w2) (ho : w2.ownsRow w.heap.size 5 1 (.slice (some ⟨w.heap.size, 0, none⟩) k c) k (bs.map bV ++ cs.map bV)) : NewB w w2 k c (bs ++ cs) :=
  ⟨by rw [List.map_append]; exact ho, h.2.trans hb⟩
set_option maxRecDepth 100000 in
theorem four_any (bs : List UInt8) (sp : Option Addr) (n cap x : Nat) (w : World) (hs : SrcB w (.slice sp n cap) bs) (hn : n ≤ 70368744177664) (hx : x ≤ 4294967295) :
    Calls Tryd.prog 32 #[.slice sp n cap, .int .u32 x] w fun e w' => e = .returned (.slice (some ⟨w.heap.size, 0, none⟩) (n + 4) (n + 4)) ∧ NewB w w' (n + 4) (n + 4) (bs ++ leB x 4) := by
  have HS := Lib.hid hs
  clear hs
  go_enter Tryd.func32, Tryd.ntmps32
  go_wp2_with (first | (go_at_call 60; refine (room_any bs sp n cap 4 4 rfl _ HS.out hn (by omega)).mono ?_; rintro e w1 ⟨rfl, hn1⟩; have HN1 := Lib.hid hn1; clear hn1) | (go_at_call 59; refine (lowest_any x 4 w.heap.size n (n + 4) 4 rfl (bs.map bV) _ (by omega) (by omega) (by omega) HN1.out.lt HN1.out.1).mono ?_; rintro e w2 ⟨rfl, ho, hb⟩; have HN2 := Lib.hid (HN1.out.low hb ho); clear ho hb))
  go_ret
  exact ⟨rfl, HN2.out⟩
set_option maxRecDepth 100000 in
theorem eight_any (bs : List UInt8) (sp : Option Addr) (n cap x : Nat) (w : World) (hs : SrcB w (.slice sp n cap) bs) (hn : n ≤ 70368744177664) :
    Calls Tryd.prog 94 #[.slice sp n cap, .int .u64 x] w fun e w' => e = .returned (.slice (some ⟨w.heap.size, 0, none⟩) (n + 8) (n + 8)) ∧ NewB w w' (n + 8) (n + 8) (bs ++ leB x 8) := by
  have HS := Lib.hid hs
  clear hs
  go_enter Tryd.func94, Tryd.ntmps94
  go_wp2_with (first | (go_at_call 60; refine (room_any bs sp n cap 8 8 rfl _ HS.out hn (by omega)).mono ?_; rintro e w1 ⟨rfl, hn1⟩; have HN1 := Lib.hid hn1; clear hn1) | (go_at_call 59; refine (lowest_any x 8 w.heap.size n (n + 8) 8 rfl (bs.map bV) _ (by omega) (by omega) (by omega) HN1.out.lt HN1.out.1).mono ?_; rintro e w2 ⟨rfl, ho, hb⟩; have HN2 := Lib.hid (HN1.out.low hb ho); clear ho hb))
  go_ret
  exact ⟨rfl, HN2.out⟩
end Go.Proofs.YtdamhoagiooicaaDoor.Sha

/-
  compact.Sum and the statements' own Sum answer the amounts added, or that this is none; nothing is written. Condition: the amounts lie where the slice says.
-/
namespace Go.Proofs.YtdamhoagiooicaaDoor.Sha
open Go Go.RowKit
/-- The sum's two answers. -/
def sumV (l : List Nat) : Value := .tuple #[.int .u64 (sumL l : Nat), .bool (sumIs l)]
theorem sumV_yes {l : List Nat} (h : l.sum ≤ most) : sumV l = .tuple #[.int .u64 (l.sum : Nat), .bool true] := by
  unfold sumV sumL sumIs
  rw [if_pos h, decide_eq_true h]
theorem sumV_no {l : List Nat} (h : ¬ l.sum ≤ most) : sumV l = .tuple #[.int .u64 0, .bool false] := by
  unfold sumV sumL sumIs
  rw [if_neg h, decide_eq_false h]
  rfl
def SmI (l : List Nat) (vs vi : Value) : Prop := ∃ k : Nat, k ≤ l.length ∧ vi = .int .i64 k ∧ vs = .int .u64 ((l.take k).sum : Nat) ∧ (l.take k).sum ≤ most
theorem most_eq : most = 2100000000000000 := rfl
set_option maxRecDepth 100000 in
theorem sum_c (l : List Nat) (v : Value) (w : World) (hs : SrcU w v l) (hl : l.length ≤ 9223372036854775807) :
    Calls Tryd.prog 103 #[v] w fun e w' => e = .returned (sumV l) ∧ w = w' := by
  have hm := most_eq
  rcases hs with ⟨sp, cap, rfl, rfl⟩ | ⟨h0, bb, off, cap, rfl, hc, hcell⟩
  · rw [sumV_yes (by simp)]
    clear hm hl
    go_enter Tryd.func103, Tryd.ntmps103
    go_wp2_with fail
    refine wp_loop_rounds 1 ?_
    rw [rounds_succ]
    go_wp2_with fail
    go_ret2
    exact ⟨rfl, rfl⟩
  obtain ⟨n, hn⟩ : ∃ n, n = l.length := ⟨_, rfl⟩
  rw [← hn] at hc h0 hl ⊢
  have HN := Lib.hid hn
  have HC := Lib.hid hcell
  clear hn hcell hm
  go_enter Tryd.func103, Tryd.ntmps103
  go_wp2_with fail
  go_loop [4, 9] (fun vs vi => SmI l vs vi) (fun _ vi => n - (intOf vi).toNat)
  case atStart => exact ⟨0, by omega, rfl, rfl, by simp⟩
  case round =>
    obtain ⟨k, hk, rfl, rfl, hsm⟩ := hrel
    rw [← HN.out] at hk
    obtain ⟨s, hse⟩ : ∃ s, s = (l.take k).sum := ⟨_, rfl⟩
    rw [← hse] at hsm ⊢
    rw [most_eq] at hsm
    by_cases hlt : k < n
    · obtain ⟨x, hx⟩ : ∃ x, x = l.getD k 0 := ⟨_, rfl⟩
      have ck : w.cell? ⟨bb, off + k, none⟩ = some (.int .u64 (x : Nat)) := by rw [hx]; exact HC.out k (by rw [← HN.out]; exact hlt)
      have HT : Hid ((l.take (k + 1)).sum = s + x) := by
        show _ = _
        rw [sum_take_succ (by rw [← HN.out]; exact hlt), hse, hx]
      have HO : Hid (most < s + x → ¬ l.sum ≤ most) := fun h => sum_over (k := k) (by rw [← HN.out]; exact hlt) (by rw [← hse, ← hx]; exact h)
      have HNL : Hid (k + 1 ≤ l.length) := by show _ ≤ _; rw [← HN.out]; omega
      clear hx hse HC
      by_cases hov : s + x ≤ 2100000000000000
      · have hno : ¬ (2100000000000000 - (s : Int) < (x : Int)) := by omega
        go_wp2_with fail
        go_round
        case rel => exact ⟨k + 1, HNL.out, by go_num, by rw [HT.out]; go_num, by rw [HT.out, most_eq]; exact hov⟩
        case measure => simp [intOf]; omega
      · have hyes : (2100000000000000 - (s : Int) < (x : Int)) := by omega
        have HF : Hid (sumV l = .tuple #[.int .u64 0, .bool false]) := sumV_no (HO.out (by rw [most_eq]; omega))
        clear HO HT
        go_wp2_with fail
        go_ret2
        exact ⟨by rw [HF.out]; rfl, rfl⟩
    · have hkn : k = n := by omega
      have HF : Hid (sumV l = .tuple #[.int .u64 (s : Nat), .bool true]) := by
        have e : l.take k = l := List.take_of_length_le (by rw [← HN.out]; omega)
        show _ = _
        rw [hse, e]
        exact sumV_yes (by rw [← e, ← hse, most_eq]; exact hsm)
      clear hkn hse HC
      go_wp2_with fail
      go_ret2
      exact ⟨by rw [HF.out]; rfl, rfl⟩
end Go.Proofs.YtdamhoagiooicaaDoor.Sha

/-
  The statements' own numbers in bytes and sums (chapter 2) answer what the chapter says; nothing that was there turns but the row that they are given. Conditions: own rows that are short; amounts that lie where the slice says.
-/
namespace Go.Proofs.YtdamhoagiooicaaDoor.Sha
open Go Go.RowKit
set_option maxRecDepth 100000 in
theorem rlen_c (n : Nat) (k : Int) (w : World) (hk : ((lenN n : Nat) : Int) = k) :
    Calls Tryd.prog 112 #[.int .u64 n] w fun e w' => e = .returned (.int .i64 k) ∧ w = w' := by
  subst hk
  by_cases h1 : n < 253
  · have e : lenN n = 1 := by unfold lenN; rw [if_pos h1]
    rw [e]
    clear e
    go_enter Tryd.func112, Tryd.ntmps112
    go_wp2
    go_ret
    exact ⟨rfl, rfl⟩
  by_cases h2 : n ≤ 65535
  · have e : lenN n = 3 := by unfold lenN; rw [if_neg h1, if_pos h2]
    rw [e]
    have i1 : ¬ (n : Int) < 253 := by omega
    have i2 : (n : Int) < 65536 := by omega
    clear e h1 h2
    go_enter Tryd.func112, Tryd.ntmps112
    go_wp2
    go_ret
    exact ⟨rfl, rfl⟩
  by_cases h3 : n ≤ 4294967295
  · have e : lenN n = 5 := by unfold lenN; rw [if_neg h1, if_neg h2, if_pos h3]
    rw [e]
    have i1 : ¬ (n : Int) < 253 := by omega
    have i2 : ¬ (n : Int) < 65536 := by omega
    have i3 : (n : Int) < 4294967296 := by omega
    clear e h1 h2 h3
    go_enter Tryd.func112, Tryd.ntmps112
    go_wp2
    go_ret
    exact ⟨rfl, rfl⟩
  · have e : lenN n = 9 := by unfold lenN; rw [if_neg h1, if_neg h2, if_neg h3]
    rw [e]
    have i1 : ¬ (n : Int) < 253 := by omega
    have i2 : ¬ (n : Int) < 65536 := by omega
    have i3 : ¬ (n : Int) < 4294967296 := by omega
    clear e h1 h2 h3
    go_enter Tryd.func112, Tryd.ntmps112
    go_wp2
    go_ret
    exact ⟨rfl, rfl⟩
/-- An own row of bytes, nothing below B turned. -/
def OwnB (base B : Nat) (w0 w : World) (v : Value) (bs : List UInt8) : Prop := w.ownsRow base 5 1 v bs.length (bs.map bV) ∧ Below B w0 w ∧ B ≤ w.heap.size
def LtInv (n many base : Nat) (bs : List UInt8) (w : World) (vb vi : Value) (wr : World) : Prop :=
  ∃ k : Nat, k ≤ many ∧ vi = .int .i64 k ∧ OwnB base base w wr vb (bs ++ leB n k)
theorem OwnB.push {base B : Nat} {w0 w w' : World} {v v' : Value} {bs : List UInt8} {o : Obj} (c : UInt8) (h : OwnB base B w0 w v bs) (hB : B ≤ base) (ho : w'.ownsRow base 5 1 v' (bs.length + 1) (bs.map bV ++ [.int .u8 (bv c)])) (hg : (w.alloc o).grownBy w' v.ownBlock) : OwnB base B w0 w' v' (bs ++ [c]) := by
  refine ⟨?_, own_grown (h.2.1.alloc h.2.2 o) hB (by have := h.2.2; simp; omega) (h.1.alloc o) hg, by have := hg.size; have := h.2.2; simp at *; omega⟩
  rw [List.map_append, List.length_append]
  exact ho
set_option maxHeartbeats 400000 in
set_option maxRecDepth 100000 in
theorem little_any (n many base : Nat) (km : Int) (hkm : km = (many : Int)) (bs : List UInt8) (v : Value) (w : World) (hw : many ≤ 8) (hb : base ≤ w.heap.size) (hl : bs.length ≤ 70368744177664) (ho : w.ownsRow base 5 1 v bs.length (bs.map bV)) :
    Calls Tryd.prog 61 #[v, .int .u64 n, .int .i64 km] w fun e w' => ∃ v', e = .returned v' ∧ OwnB base base w w' v' (bs ++ leB n many) := by
  subst hkm
  obtain ⟨i0, hi, hz0, hz1, hz2⟩ := info_parts info_u8
  have HO : Hid (OwnB base base w w v (bs ++ leB n 0)) := ⟨by simpa [leB] using ho, Below.refl _ _, hb⟩
  clear ho
  go_enter Tryd.func61, Tryd.ntmps61
  go_wp2_with fail
  go_loopw [0, 7] (fun vb vi wr => LtInv n many base bs w vb vi wr) (fun _ i _ => many - (intOf i).toNat)
  case atStart => exact ⟨0, by omega, rfl, HO.out⟩
  case round =>
    obtain ⟨k, hk, rfl, hown⟩ := hrel
    have HO := Lib.hid hown
    clear hown
    by_cases hlt : k < many
    · have e1 : (8 * (k : Int)).toNat = 8 * k := by omega
      have e2 : (2 : Nat) ^ (8 * k) = 256 ^ k := by rw [Nat.pow_mul]
      obtain ⟨q, hq⟩ : ∃ q, q = n / 256 ^ k := ⟨_, rfl⟩
      have hby : (n : Int) / 2 ^ (8 * k) % 256 = bv (UInt8.ofNat q) := by
        rw [← bv_of, IntKind.wrap_u8', hq, ← e2]
        simp
      obtain ⟨c, hc⟩ : ∃ c, c = UInt8.ofNat q := ⟨_, rfl⟩
      rw [← hc] at hby
      have HT : Hid (bs ++ leB n (k + 1) = (bs ++ leB n k) ++ [c]) := by
        show _ = _
        rw [hc, hq, leB, List.append_assoc]
      obtain ⟨cs, hcs⟩ : ∃ cs, cs = bs ++ leB n k := ⟨_, rfl⟩
      have hcl : cs.length ≤ 70368744177680 := by rw [hcs, List.length_append, leB_length]; omega
      rw [← hcs] at HO HT
      clear hq hc hcs e2
      go_wp2_with (at_builtin; refine wpList_append_own _ rfl _ _ 25 rfl base 5 i0 (.int .u8 0) 1 1 Tryd.underlying25 hi hz0 hz1 hz2 rfl (by decide) _ cs.length _ rfl (HO.out.1.alloc _) ⟨wr.heap.size, 0, none⟩ 1 1 [.int .u8 (bv c)] rfl rfl (cell_one_new _ _ _) (one_u8 _) (by unfold maxLen; omega) (by omega) (by have := HO.out.2.2; simp; omega) ?_; intro v2 w3 ho3 hg3 _; have HN := Lib.hid (HO.out.push c (Nat.le_refl _) ho3 hg3); clear ho3 hg3; go_frame)
      go_roundw
      case rel => exact ⟨k + 1, by omega, by go_num, by rw [HT.out]; exact HN.out⟩
      case measure => simp [intOf]; omega
    · have hkn : k = many := by omega
      subst hkn
      clear hlt
      go_wp2_with fail
      go_ret
      exact ⟨_, rfl, HO.out⟩
end Go.Proofs.YtdamhoagiooicaaDoor.Sha

/-
  The statements' own Four, Eight, Put write a number behind bytes of the caller's: whatever else was there stays, but for the row written to. Conditions: the row is the caller's own, fewer than 2^46 bytes.
-/
namespace Go.Proofs.YtdamhoagiooicaaDoor.Sha
open Go Go.RowKit
/-- An own row of bytes; since w0 nothing turned but the row r. -/
def OwnG (base : Nat) (r : Option Nat) (w0 w : World) (v : Value) (bs : List UInt8) : Prop :=
  w.ownsRow base 5 1 v bs.length (bs.map bV) ∧ w0.grownBy w r ∧ (v.ownBlock = r ∨ ∃ k, v.ownBlock = some k ∧ w0.heap.size ≤ k) ∧ base ≤ w.heap.size
theorem OwnG.start {base : Nat} {w : World} {v : Value} {bs : List UInt8} (h : w.ownsRow base 5 1 v bs.length (bs.map bV)) (hb : base ≤ w.heap.size) : OwnG base v.ownBlock w w v bs := ⟨h, grownBy_refl _ _, .inl rfl, hb⟩
theorem grown_over {w0 w w' : World} {r q : Option Nat} (h : w0.grownBy w r) (hg : w.grownBy w' q) (hq : q = r ∨ ∃ k, q = some k ∧ w0.heap.size ≤ k) : w0.grownBy w' r :=
  ⟨hg.os.trans h.os, hg.tape.trans h.tape, hg.output.trans h.output, Nat.le_trans h.size hg.size, fun k hk hne => by
    rw [hg.block k (Nat.lt_of_lt_of_le hk h.size) (by
      rcases hq with rfl | ⟨k', rfl, hk'⟩
      · exact hne
      · exact fun e => by have := Option.some.inj e; omega)]
    exact h.block k hk hne⟩
theorem OwnG.push {base : Nat} {r : Option Nat} {w0 w w' : World} {v v' : Value} {bs : List UInt8} {o : Obj} (c : UInt8) (h : OwnG base r w0 w v bs) (ho : w'.ownsRow base 5 1 v' (bs.length + 1) (bs.map bV ++ [.int .u8 (bv c)])) (hg : (w.alloc o).grownBy w' v.ownBlock)
    (hv : v'.ownBlock = v.ownBlock ∨ v'.ownBlock = some (w.alloc o).heap.size) : OwnG base r w0 w' v' (bs ++ [c]) := by
  have hg2 : w.grownBy w' v.ownBlock := grownBy_trans (World.grownBy_alloc w o _) hg
  refine ⟨?_, grown_over h.2.1 hg2 h.2.2.1, ?_, Nat.le_trans h.2.2.2 hg2.size⟩
  · rw [List.map_append, List.length_append]
    exact ho
  · rcases hv with e | e
    · rw [e]
      exact h.2.2.1
    · exact .inr ⟨_, e, by have := h.2.1.size; simp; omega⟩
theorem OwnG.trans {base : Nat} {r : Option Nat} {w0 w w' : World} {v v' : Value} {bs cs : List UInt8} (h : OwnG base r w0 w v bs) (k : OwnG base v.ownBlock w w' v' cs) : OwnG base r w0 w' v' cs :=
  ⟨k.1, grown_over h.2.1 k.2.1 h.2.2.1, by
    rcases k.2.2.1 with e | ⟨q, e, hq⟩
    · rw [e]
      exact h.2.2.1
    · exact .inr ⟨q, e, Nat.le_trans h.2.1.size hq⟩, k.2.2.2⟩
/-- Many bytes at once. -/
theorem OwnG.app {base : Nat} {r : Option Nat} {w0 w w' : World} {v v' : Value} {bs cs : List UInt8} (h : OwnG base r w0 w v bs) (ho : w'.ownsRow base 5 1 v' (bs.length + cs.length) (bs.map bV ++ cs.map bV)) (hg : w.grownBy w' v.ownBlock)
    (hv : v'.ownBlock = v.ownBlock ∨ v'.ownBlock = some w.heap.size) : OwnG base r w0 w' v' (bs ++ cs) := by
  refine ⟨?_, grown_over h.2.1 hg h.2.2.1, ?_, Nat.le_trans h.2.2.2 hg.size⟩
  · rw [List.map_append, List.length_append]
    exact ho
  · rcases hv with e | e
    · rw [e]
      exact h.2.2.1
    · exact .inr ⟨_, e, h.2.1.size⟩
/-- Only new memory turned, if the row is above. -/
theorem OwnG.below {base B : Nat} {r : Option Nat} {w0 w : World} {v : Value} {bs : List UInt8} (h : OwnG base r w0 w v bs) (hr : ∀ k, r = some k → B ≤ k) (hB : B ≤ w0.heap.size) : Below B w0 w :=
  ⟨h.2.1.os, h.2.1.tape, h.2.1.output, h.2.1.size, fun k hk => h.2.1.block k (by omega) (fun e => by have := hr k e.symm; omega)⟩
section
variable {P : Program}
/-- Any bytes behind an own row: it stays where it was, or is new. -/
theorem wp_append_g (w : World) {o : Oper} {a : Act} {K : Act → World → Prop} {Q : Exit → Act → World → Prop}
    (s x : Operand) (t : TypeId) (hop : o.op = Op.call { callee := Callee.builtin Builtin.append, args := #[s, x], argTypes := #[t, t] })
    (base : Nat) (e : TypeId) (i : TypeInfo) (h1 : P.underlying t = some (.slice e)) (h2 : P.info? e = some i) (hz : i.zero = some (.int .u8 0)) (h4 : i.size = 1) (h5 : i.bytes = 1)
    (v : Value) (k : Nat) (xs : List Value) (hs : a.eval s = v) (hown : w.ownsRow base e 1 v k xs) (y : Value) (bs : List UInt8) (hx : a.eval x = y) (hsrc : SrcB w y bs) (hlen : k + bs.length ≤ 70368744177680) (hbase : base ≤ w.heap.size)
    (hK : ∀ v' w', w'.ownsRow base e 1 v' (k + bs.length) (xs ++ bs.map bV) → w.grownBy w' v.ownBlock → (v'.ownBlock = v.ownBlock ∨ v'.ownBlock = some w.heap.size) → K (a.put o.dst v') w') : o.wp P a w K Q := by
  rcases hsrc with ⟨sp, c, rfl, rfl⟩ | ⟨h0, bb, off, c, rfl, hc, hcell⟩
  · have hrun := run_append_any0 (P := P) (w := w) base t o.type e i h1 h2 v k xs (by rw [h4]; exact hown) sp c
    unfold Oper.wp
    simp [execOp, hop, resolve, invoke, builtin, hs, hx, hrun, Result.andThen]
    refine hK v w ?_ (grownBy_refl _ _) (.inl rfl)
    show w.ownsRow _ _ _ _ _ _
    simpa using hown
  · obtain ⟨v', w', hr, h2', h3', _, h5'⟩ := run_append_own_at (P := P) w base t o.type e i (.int .u8 0) 1 1 h1 h2 hz h4 h5 rfl (by decide) v k xs hown ⟨bb, off, none⟩ bs.length c (bs.map bV) (by simp)
      (fun j u hu => by
        rw [List.getElem?_map] at hu
        obtain ⟨b, hb, rfl⟩ := Option.map_eq_some_iff.1 hu
        have hj := (List.getElem?_eq_some_iff.1 hb).1
        rw [Addr.add_mid, hcell j hj]
        simp [bV, List.getD, hb])
      (bV_one' bs) (by unfold maxLen; omega) (by omega) hbase
    unfold Oper.wp execOp
    simp only [hop, resolve, invoke, builtin, Sem.run_bind, Sem.run_pure, Result.andThen_ok, List.map_toArray, List.map_cons, List.map_nil, hs, hx, hr]
    exact hK v' w' h2' h3' h5'
theorem wpList_append_g (w : World) {ops : Array Oper} {rest : List Oper} {o : Oper} {a : Act} {Q : Exit → Act → World → Prop} (hg : o.guard = none)
    (s x : Operand) (t : TypeId) (hop : o.op = Op.call { callee := Callee.builtin Builtin.append, args := #[s, x], argTypes := #[t, t] })
    (base : Nat) (e : TypeId) (i : TypeInfo) (h1 : P.underlying t = some (.slice e)) (h2 : P.info? e = some i) (hz : i.zero = some (.int .u8 0)) (h4 : i.size = 1) (h5 : i.bytes = 1)
    (v : Value) (k : Nat) (xs : List Value) (hs : a.eval s = v) (hown : w.ownsRow base e 1 v k xs) (y : Value) (bs : List UInt8) (hx : a.eval x = y) (hsrc : SrcB w y bs) (hlen : k + bs.length ≤ 70368744177680) (hbase : base ≤ w.heap.size)
    (hK : ∀ v' w', w'.ownsRow base e 1 v' (k + bs.length) (xs ++ bs.map bV) → w.grownBy w' v.ownBlock → (v'.ownBlock = v.ownBlock ∨ v'.ownBlock = some w.heap.size) → wpList P ops Q rest (a.put o.dst v') w') : wpList P ops Q (o :: rest) a w :=
  wpList_plain hg fun _ hK' => wp_append_g w s x t hop base e i h1 h2 hz h4 h5 v k xs hs hown y bs hx hsrc hlen hbase (fun v' w' a1 a2 a3 => hK' _ _ (hK v' w' a1 a2 a3))
end
def LgInv (n many base : Nat) (r : Option Nat) (bs : List UInt8) (w : World) (vb vi : Value) (wr : World) : Prop :=
  ∃ k : Nat, k ≤ many ∧ vi = .int .i64 k ∧ OwnG base r w wr vb (bs ++ leB n k)
set_option maxHeartbeats 400000 in
set_option maxRecDepth 100000 in
theorem little_g (n many base : Nat) (km : Int) (hkm : km = (many : Int)) (bs : List UInt8) (v : Value) (w : World) (hw : many ≤ 8) (hb : base ≤ w.heap.size) (hl : bs.length ≤ 70368744177664) (ho : w.ownsRow base 5 1 v bs.length (bs.map bV)) :
    Calls Tryd.prog 61 #[v, .int .u64 n, .int .i64 km] w fun e w' => ∃ v', e = .returned v' ∧ OwnG base v.ownBlock w w' v' (bs ++ leB n many) := by
  subst hkm
  obtain ⟨i0, hi, hz0, hz1, hz2⟩ := info_parts info_u8
  have HO : Hid (OwnG base v.ownBlock w w v (bs ++ leB n 0)) := OwnG.start (by simpa [leB] using ho) hb
  clear ho
  go_enter Tryd.func61, Tryd.ntmps61
  go_wp2_with fail
  go_loopw [0, 7] (fun vb vi wr => LgInv n many base v.ownBlock bs w vb vi wr) (fun _ i _ => many - (intOf i).toNat)
  case atStart => exact ⟨0, by omega, rfl, HO.out⟩
  case round =>
    obtain ⟨k, hk, rfl, hown⟩ := hrel
    have HO := Lib.hid hown
    clear hown
    by_cases hlt : k < many
    · have e1 : (8 * (k : Int)).toNat = 8 * k := by omega
      have e2 : (2 : Nat) ^ (8 * k) = 256 ^ k := by rw [Nat.pow_mul]
      obtain ⟨q, hq⟩ : ∃ q, q = n / 256 ^ k := ⟨_, rfl⟩
      have hby : (n : Int) / 2 ^ (8 * k) % 256 = bv (UInt8.ofNat q) := by
        rw [← bv_of, IntKind.wrap_u8', hq, ← e2]
        simp
      obtain ⟨c, hc⟩ : ∃ c, c = UInt8.ofNat q := ⟨_, rfl⟩
      rw [← hc] at hby
      have HT : Hid (bs ++ leB n (k + 1) = (bs ++ leB n k) ++ [c]) := by
        show _ = _
        rw [hc, hq, leB, List.append_assoc]
      obtain ⟨cs, hcs⟩ : ∃ cs, cs = bs ++ leB n k := ⟨_, rfl⟩
      have hcl : cs.length ≤ 70368744177680 := by rw [hcs, List.length_append, leB_length]; omega
      rw [← hcs] at HO HT
      clear hq hc hcs e2
      go_wp2_with (at_builtin; refine wpList_append_own_at _ rfl _ _ 25 rfl base 5 i0 (.int .u8 0) 1 1 Tryd.underlying25 hi hz0 hz1 hz2 rfl (by decide) _ cs.length _ rfl (HO.out.1.alloc _) ⟨wr.heap.size, 0, none⟩ 1 1 [.int .u8 (bv c)] rfl rfl (cell_one_new _ _ _) (one_u8 _) (by unfold maxLen; omega) (by omega) (by have := HO.out.2.2.2; simp; omega) ?_; intro v2 w3 ho3 hg3 _ hv3; have HN := Lib.hid (HO.out.push c ho3 hg3 hv3); clear ho3 hg3 hv3; go_frame)
      go_roundw
      case rel => exact ⟨k + 1, by omega, by go_num, by rw [HT.out]; exact HN.out⟩
      case measure => simp [intOf]; omega
    · have hkn : k = many := by omega
      subst hkn
      clear hlt
      go_wp2_with fail
      go_ret
      exact ⟨_, rfl, HO.out⟩
set_option maxHeartbeats 1000000 in
set_option maxRecDepth 100000 in
theorem rput_g (n base : Nat) (bs : List UInt8) (v : Value) (w : World) (hb : base ≤ w.heap.size) (hl : bs.length ≤ 70368744177600) (ho : w.ownsRow base 5 1 v bs.length (bs.map bV)) :
    Calls Tryd.prog 107 #[v, .int .u64 n] w fun e w' => ∃ v', e = .returned v' ∧ OwnG base v.ownBlock w w' v' (bs ++ putL n) := by
  obtain ⟨i0, hi, hz0, hz1, hz2⟩ := info_parts info_u8
  have HO : Hid (OwnG base v.ownBlock w w v bs) := OwnG.start ho hb
  clear ho
  rcases lenN_eq n with ⟨e, e2⟩ | ⟨e, e2⟩ | ⟨e, e2⟩ | ⟨e, e2⟩ <;> rw [e2] <;> clear e2
  · have hby : (n : Int) % 256 = bv (UInt8.ofNat n) := by rw [← bv_of, IntKind.wrap_u8']
    obtain ⟨c, hc⟩ : ∃ c, c = UInt8.ofNat n := ⟨_, rfl⟩
    rw [← hc] at hby ⊢
    have HL : Hid (((lenN n : Nat) : Int) = 1) := by show _ = _; rw [e]; rfl
    clear e hc
    go_enter Tryd.func107, Tryd.ntmps107
    go_wp2_with (first | (go_at_call 112; refine (rlen_c n 1 _ HL.out).mono ?_; rintro e w' ⟨rfl, rfl⟩) | (at_builtin; refine wpList_append_own_at _ rfl _ _ 25 rfl base 5 i0 (.int .u8 0) 1 1 Tryd.underlying25 hi hz0 hz1 hz2 rfl (by decide) v bs.length _ rfl (HO.out.1.alloc _) ⟨w.heap.size, 0, none⟩ 1 1 [.int .u8 (bv c)] rfl rfl (cell_one_new _ _ _) (one_u8 _) (by unfold maxLen; omega) (by omega) (by simp; omega) ?_; intro v2 w3 ho3 hg3 _ hv3; have HN := Lib.hid (HO.out.push c ho3 hg3 hv3); clear ho3 hg3 hv3; go_frame))
    go_ret
    exact ⟨_, rfl, HN.out⟩
  · have HL : Hid (((lenN n : Nat) : Int) = 3) := by show _ = _; rw [e]; rfl
    clear e
    go_enter Tryd.func107, Tryd.ntmps107
    go_wp2_with (first | (go_at_call 112; refine (rlen_c n 3 _ HL.out).mono ?_; rintro e w' ⟨rfl, rfl⟩) | (at_builtin; refine wpList_append_own_at _ rfl _ _ 25 rfl base 5 i0 (.int .u8 0) 1 1 Tryd.underlying25 hi hz0 hz1 hz2 rfl (by decide) v bs.length _ rfl (HO.out.1.alloc _) ⟨w.heap.size, 0, none⟩ 1 1 [.int .u8 (bv 253)] rfl rfl (cell_one_new _ _ _) (one_u8 _) (by unfold maxLen; omega) (by omega) (by simp; omega) ?_; intro v2 w3 ho3 hg3 _ hv3; have HN := Lib.hid (HO.out.push 253 ho3 hg3 hv3); clear ho3 hg3 hv3; go_frame) | (go_at_call 61; refine (little_g n 2 base 2 rfl (bs ++ [253]) v2 _ (by omega) HN.out.2.2.2 (by simp; omega) HN.out.1).mono ?_; rintro e w4 ⟨v4, rfl, h4⟩; have H4 := Lib.hid h4; clear h4))
    go_ret
    have h := H4.out
    rw [List.append_assoc] at h
    exact ⟨_, rfl, HN.out.trans h⟩
  · have HL : Hid (((lenN n : Nat) : Int) = 5) := by show _ = _; rw [e]; rfl
    clear e
    go_enter Tryd.func107, Tryd.ntmps107
    go_wp2_with (first | (go_at_call 112; refine (rlen_c n 5 _ HL.out).mono ?_; rintro e w' ⟨rfl, rfl⟩) | (at_builtin; refine wpList_append_own_at _ rfl _ _ 25 rfl base 5 i0 (.int .u8 0) 1 1 Tryd.underlying25 hi hz0 hz1 hz2 rfl (by decide) v bs.length _ rfl (HO.out.1.alloc _) ⟨w.heap.size, 0, none⟩ 1 1 [.int .u8 (bv 254)] rfl rfl (cell_one_new _ _ _) (one_u8 _) (by unfold maxLen; omega) (by omega) (by simp; omega) ?_; intro v2 w3 ho3 hg3 _ hv3; have HN := Lib.hid (HO.out.push 254 ho3 hg3 hv3); clear ho3 hg3 hv3; go_frame) | (go_at_call 61; refine (little_g n 4 base 4 rfl (bs ++ [254]) v2 _ (by omega) HN.out.2.2.2 (by simp; omega) HN.out.1).mono ?_; rintro e w4 ⟨v4, rfl, h4⟩; have H4 := Lib.hid h4; clear h4))
    go_ret
    have h := H4.out
    rw [List.append_assoc] at h
    exact ⟨_, rfl, HN.out.trans h⟩
  · have HL : Hid (((lenN n : Nat) : Int) = 9) := by show _ = _; rw [e]; rfl
    clear e
    go_enter Tryd.func107, Tryd.ntmps107
    go_wp2_with (first | (go_at_call 112; refine (rlen_c n 9 _ HL.out).mono ?_; rintro e w' ⟨rfl, rfl⟩) | (at_builtin; refine wpList_append_own_at _ rfl _ _ 25 rfl base 5 i0 (.int .u8 0) 1 1 Tryd.underlying25 hi hz0 hz1 hz2 rfl (by decide) v bs.length _ rfl (HO.out.1.alloc _) ⟨w.heap.size, 0, none⟩ 1 1 [.int .u8 (bv 255)] rfl rfl (cell_one_new _ _ _) (one_u8 _) (by unfold maxLen; omega) (by omega) (by simp; omega) ?_; intro v2 w3 ho3 hg3 _ hv3; have HN := Lib.hid (HO.out.push 255 ho3 hg3 hv3); clear ho3 hg3 hv3; go_frame) | (go_at_call 61; refine (little_g n 8 base 8 rfl (bs ++ [255]) v2 _ (by omega) HN.out.2.2.2 (by simp; omega) HN.out.1).mono ?_; rintro e w4 ⟨v4, rfl, h4⟩; have H4 := Lib.hid h4; clear h4))
    go_ret
    have h := H4.out
    rw [List.append_assoc] at h
    exact ⟨_, rfl, HN.out.trans h⟩
set_option maxRecDepth 100000 in
theorem rfour_g (n base : Nat) (bs : List UInt8) (v : Value) (w : World) (hn : n ≤ 4294967295) (hb : base ≤ w.heap.size) (hl : bs.length ≤ 70368744177600) (ho : w.ownsRow base 5 1 v bs.length (bs.map bV)) :
    Calls Tryd.prog 33 #[v, .int .u32 n] w fun e w' => ∃ v', e = .returned v' ∧ OwnG base v.ownBlock w w' v' (bs ++ leB n 4) := by
  have HO := Lib.hid ho
  clear ho
  go_enter Tryd.func33, Tryd.ntmps33
  go_wp2_with (go_at_call 61; refine (little_g n 4 base 4 rfl bs v _ (by omega) hb (by omega) HO.out).mono ?_; rintro e w4 ⟨v4, rfl, h4⟩; have H4 := Lib.hid h4; clear h4)
  go_ret
  exact ⟨_, rfl, H4.out⟩
set_option maxRecDepth 100000 in
theorem reight_g (n base : Nat) (bs : List UInt8) (v : Value) (w : World) (hb : base ≤ w.heap.size) (hl : bs.length ≤ 70368744177600) (ho : w.ownsRow base 5 1 v bs.length (bs.map bV)) :
    Calls Tryd.prog 108 #[v, .int .u64 n] w fun e w' => ∃ v', e = .returned v' ∧ OwnG base v.ownBlock w w' v' (bs ++ leB n 8) := by
  have HO := Lib.hid ho
  clear ho
  go_enter Tryd.func108, Tryd.ntmps108
  go_wp2_with (go_at_call 61; refine (little_g n 8 base 8 rfl bs v _ (by omega) hb (by omega) HO.out).mono ?_; rintro e w4 ⟨v4, rfl, h4⟩; have H4 := Lib.hid h4; clear h4)
  go_ret
  exact ⟨_, rfl, H4.out⟩
end Go.Proofs.YtdamhoagiooicaaDoor.Sha

/-
  What may be read first in a region that draws its order; bytes in the middle of a block as a source. No conditions beyond those that each states.
-/
namespace Go.Proofs.YtdamhoagiooicaaDoor.Sha
open Go Go.RowKit
/-- A cell that every world of S holds may be read first. -/
theorem yieldsIf_load_one {P : Program} {ops : Array Oper} {S : World → Prop} {op : Oper} {a : Act} (hw : Region.wanted op (yielded ops a.tmps) = true) (ty : TypeId) (x : Operand) (ho : op.op = .load ty x)
    (b off : Nat) (hx : a.eval x = .pointer (some ⟨b, off, none⟩)) (v : Value) (d : TypeDesc) (hS : ∀ w, S w → w.cell? ⟨b, off, none⟩ = some v)
    (hu : P.underlying ty = some d) (hd : d.isRow = false) : YieldsIf P ops S op v a :=
  .inl ⟨hw, fun w hw' => by
    have hagg : (isAgg ty).run P w = .ok false w := by
      unfold isAgg
      rw [Sem.run_bind, run_underlying hu w]
      cases d <;> simp_all
    unfold execOp
    simp [ho, hx, Instr.loadAt, Instr.sureAddr, Sem.run_bind, loadVar, hagg, hS w hw']⟩
/-- A whole row that every world of S holds may be read first. -/
theorem yieldsIf_load_row {P : Program} {ops : Array Oper} {S : World → Prop} {op : Oper} {a : Act} (hw : Region.wanted op (yielded ops a.tmps) = true) (ty : TypeId) (x : Operand) (ho : op.op = .load ty x)
    (g : Nat) (hx : a.eval x = .pointer (some ⟨g, 0, none⟩)) (t : TypeId) (cs : Array Value) (fr : Nat × Nat) (d : TypeDesc) (hS : ∀ w, S w → w.heap[g]? = some (.cells cs t fr))
    (hu : P.underlying ty = some d) (hd : (match d with | .struct _ | .array _ _ => true | _ => false) = true) (hi : (P.info? ty).map (·.size) = some cs.size) : YieldsIf P ops S op (.agg cs) a :=
  .inl ⟨hw, fun w hw' => by
    unfold execOp
    simp only [ho, hx, Instr.loadAt, Instr.sureAddr, Sem.run_bind, Sem.run_pure, Result.andThen_ok, run_loadVar_row w g t ty cs fr d (hS w hw') hu hd hi]⟩
/-- A part of a block as a source of bytes. -/
theorem src_range {w : World} {b o m c : Nat} {bs : List UInt8} (h : w.rangeAt b o (bs.map bV)) (hm : m = bs.length) (h0 : 0 < m) (hc : m ≤ c) : SrcB w (.slice (some ⟨b, o, none⟩) m c) bs := by
  refine .inr ⟨by omega, b, o, c, by rw [hm], by omega, fun j hj => h j _ ?_⟩
  rw [List.getElem?_map, List.getElem?_eq_getElem hj]
  simp [bV, List.getD, List.getElem?_eq_getElem hj]
theorem keyAt_src {w : World} {kv : Value} {key : List UInt8} (h : KeyAt w kv key) : SrcB w kv key := h.1
theorem get_of_drop {α : Type} {l rest : List α} {i : Nat} {x : α} (h : l.drop i = x :: rest) : l[i]? = some x := by
  have := congrArg (·[0]?) h
  simpa [List.getElem?_drop] using this
section
variable {P : Program} {md : Region.Mode} {l : List Oper} {Q : Exit → Act → World → Prop} {S : World → Prop}
/-- Take operation i first: the operation comes out written. -/
theorem held_take {i : Nat} {oi : Oper} {rest : List Oper} {v : Value} {fuel : Nat} {listed : Array Bool} {a : Act} {w : World} (hd : l.drop i = oi :: rest)
    (hs : Region.noSelect l.toArray = true) (hf : Region.free md l.toArray listed i = true) (hr : (Region.ready md l.toArray listed).contains i = true)
    (hQ : ∀ c a w, Q (.panic c) (a.put oi.dst v) w → Q (.panic c) a w) (hy : YieldsIf P l.toArray S oi v a) (hS : S w)
    (h : wpAnyH P md l.toArray Q S fuel (listed.setIfInBounds i true) (a.put oi.dst v) w) : wpAnyH P md l.toArray Q S (fuel + 1) listed a w :=
  wpAnyH_take (by rw [List.getElem?_toArray]; exact get_of_drop hd) hs hf hr hQ hy hS h
/-- Operation i comes up. -/
theorem held_cons {fuel : Nat} {listed : Array Bool} {a : Act} {w : World} {i : Nat} {o : Oper} {rest : List Oper} {rs : List Nat} (hd : l.drop i = o :: rest)
    (h : ∀ K' : Act → World → Prop, Shut (∀ a w, S w → (S w → wpAnyH P md l.toArray Q S fuel (listed.setIfInBounds i true) a w) → K' a w) → if Region.wanted o (yielded l.toArray a.tmps) = true then Oper.wp P o a w K' Q else K' (a.put o.dst undef) w)
    (hs : AllReadyH P md l.toArray Q S fuel listed a w rs) : AllReadyH P md l.toArray Q S fuel listed a w (i :: rs) :=
  AllReadyH.cons (by rw [List.getElem?_toArray]; exact get_of_drop hd) h hs
end
end Go.Proofs.YtdamhoagiooicaaDoor.Sha
