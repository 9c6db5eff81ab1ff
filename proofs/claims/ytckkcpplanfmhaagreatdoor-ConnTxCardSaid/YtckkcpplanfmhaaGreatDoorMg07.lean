/-
  Texts of this proof joined into one file: ShaSha, CnSum, CnTwo, RefLess, RefPtLess, CnRef, CnRefRow, RefHalves, HeldEnd, HdMath, TxC2. What each holds, and under which conditions, its own first sentence tells.
-/
import Derived.IntWalk
import Derived.Test.YtckkcpplanfmhaaGreatDoorMg03
import Derived.Test.YtckkcpplanfmhaaGreatDoorMg06
import Derived.Test.YtckkcpplanfmhaaGreatDoorMg04
import Derived.Test.YtckkcpplanfmhaaGreatDoorMg05
/-
  digest.Sha answers the SHA-256 of the bytes that it is given, digest.Twice that of that, and turn nothing that was there. Conditions: the bytes lie where the slice says, the table is there, fewer than 2^59 bytes.
-/
namespace Go.Proofs.YtckkcpplanfmhaaGreatDoor.Sha
open Go Go.RowKit
/-- Write, whatever the slice. -/
theorem write_any (l bs : List UInt8) (v : Value) (B : Nat) (w : World) (hk : KTab w) (hB0 : B ≠ 14) (hsrc : SrcB w v bs) (hne : ∀ sp n cap, v = .slice (some sp) n cap → 0 < n → sp.block ≠ B)
    (hlen : l.length + bs.length ≤ 1152921504606846975) (hinv : WInv w B l) :
    Calls Tryz.prog 59 #[.pointer (some ⟨B, 0, none⟩), v] w fun e w' =>
      e = .returned (.tuple #[]) ∧ WInv w' B (l ++ bs) ∧ w.grownBy w' (some B) := by
  rcases hsrc with ⟨sp, cap, rfl, rfl⟩ | ⟨h0, bb, off, cap, rfl, hc, hs⟩
  · rw [List.append_nil]
    exact write_none l sp cap B w (by simpa using hlen) hinv
  · exact write_some l bs bb off cap B w hk hB0 (hne _ _ _ rfl h0) hc hlen hinv hs
theorem sha_setup (w : World) (z : Array Value) (T : TypeId) : Below w.heap.size w ((w.alloc (.cells z T)).alloc (.cells zeroW 134))
    ∧ ((w.alloc (.cells z T)).alloc (.cells zeroW 134)).heap.size = w.heap.size + 2
    ∧ ((w.alloc (.cells z T)).alloc (.cells zeroW 134)).heap[w.heap.size + 1]? = some (.cells zeroW 134 (0, 0))
    ∧ ((w.alloc (.cells z T)).alloc (.cells zeroW 134)).heap[w.heap.size]? = some (.cells z T (0, 0)) :=
  ⟨((Below.refl _ _).alloc (Nat.le_refl _) _).alloc (by simp) _, by simp, heap_alloc2_new _ _ _, heap_alloc2_old _ _ _⟩
set_option maxHeartbeats 1000000 in
set_option maxRecDepth 100000 in
theorem sha_any (bs : List UInt8) (v : Value) (w : World) (hk : KTab w) (hsrc : SrcB w v bs) (hlen : bs.length ≤ 576460752303423487) :
    Calls Tryz.prog 133 #[v] w fun e w' => e = .returned (.agg ((sha bs).map bV).toArray) ∧ Below w.heap.size w w' := by
  have hzw := zero_writer
  have HK := Lib.hid hk
  have HS := Lib.hid hsrc
  clear hk hsrc
  go_enter Tryz.func133, Tryz.ntmps133
  go_wp2_with fail
  obtain ⟨f1, f2, f3, f4⟩ := sha_setup w (List.replicate 32 (bV 0)).toArray 44
  generalize hw1 : World.alloc _ _ = w1
  have e1 : ((w.alloc (.cells (List.replicate 32 (bV 0)).toArray 44)).alloc (.cells zeroW 134)) = w1 := hw1
  rw [e1] at f1 f2 f3 f4
  have hK1 := HK.out.below f1
  have hp := HK.out.pos
  clear hw1 e1 hzw
  refine (write_any [] bs v (w.heap.size + 1) w1 hK1 (by omega) (HS.out.below f1) (HS.out.ne (Nat.le_succ _)) (by simpa using Nat.le_trans hlen (by omega)) (zero_inv f3)).mono ?_
  rintro e w2 ⟨rfl, hI, hG⟩
  rw [List.nil_append] at hI
  have B2 := grownBy_below hG f1 (Nat.le_succ _) (by omega)
  have h2 : w2.heap[w.heap.size]? = some (.cells (List.replicate 32 (bV 0)).toArray 44 (0, 0)) := by
    rw [hG.block _ (by omega) (fun e => by have := Option.some.inj e; omega)]
    exact f4
  have hs2 : w.heap.size < w2.heap.size := by have := hG.size; omega
  have HI := Lib.hid hI
  have HB2 := Lib.hid B2
  have HH2 := Lib.hid h2
  clear f1 f2 f3 f4 hK1 hI hG B2 h2
  go_wp2_with fail
  refine (sum_any bs (w.heap.size + 1) w2 (HK.out.below HB2.out) hlen HI.out).mono ?_
  rintro e w3 ⟨rfl, hb3⟩
  have h3 : w3.heap[w.heap.size]? = some (.cells (List.replicate 32 (bV 0)).toArray 44 (0, 0)) := by rw [hb3.block _ hs2]; exact HH2.out
  have HH3 := Lib.hid h3
  have B3 := Lib.hid (HB2.out.trans (hb3.mono (by omega)))
  have hl : ((sha bs).map bV).toArray.size = 32 := by simp [sha_length]
  have HL := Lib.hid hl
  clear h3 hb3 hl
  go_wp2_with ((with_reducible show wpList _ _ _ _ _ _); refine wpList_store_row rfl 44 (.tmp 2) (.tmp 6) rfl w.heap.size ((sha bs).map bV).toArray rfl rfl 44 _ HH3.out (by rw [HL.out]; kernel_rfl) (by rw [HL.out]; rfl) (bV_one _) ?_; go_frame)
  refine bodyPost_ret (results_cell_row rfl _ _ w.heap.size 44 ((sha bs).map bV).toArray (0, 0) (.array 32 5) rfl (setRow_heap _ _ _ _ _ _ HH3.out) Tryz.underlying44 rfl (by rw [HL.out]; kernel_rfl)) rfl ⟨rfl, below_setRow B3.out (Nat.le_refl _) _⟩
end Go.Proofs.YtckkcpplanfmhaaGreatDoor.Sha

/-
  A set's digest: of all coins' bytes, in the order of their places; nothing that was there turns. Conditions: the set lies where the pointer says, at most 2^20 coins; the table of the rounds' words is there.
-/
namespace Go.Proofs.YtckkcpplanfmhaaGreatDoor.Sha
open Go Go.RowKit
theorem RwAt.kps {F : Nat → Prop} {k : Nat} {w w' : World} {v : Value} {L : List (List Value)} (h : RwAt k w v L) (hk : Kps F w w') (h0 : 0 < k) (hf : ∀ sp n cap, v = .slice (some sp) n cap → F sp.block) : RwAt k w' v L := by
  obtain ⟨ho, sp, cap, hv, hc, hr⟩ := h
  refine ⟨ho, sp, cap, hv, hc, fun hl => ?_⟩
  obtain ⟨b, o, hs, hx⟩ := hr hl
  refine ⟨b, o, hs, fun i x hi j u hj => ?_⟩
  have h1 := hx i x hi j u hj
  rw [World.cell?_of_block (hk.block b (World.block_lt_of_cell? w _ h1) (hf ⟨b, o, none⟩ L.length cap (by rw [hv, hs])))]
  exact h1
end Go.Proofs.YtckkcpplanfmhaaGreatDoor.Sha

/-
  Two sets side by side; a set's coins in the one order; a part of a coin written in its box. No conditions beyond those that each states.
-/
namespace Go.Proofs.YtckkcpplanfmhaaGreatDoor.Sha
open Go Go.RowKit
section
variable {w w' : World} {a : Nat} {m : Option Nat} {l L : List TSp}
end
/-- Two sets that share no memory. -/
structure TwoS (w : World) (a : Nat) (m : Option Nat) (s : List TSp) (b : Nat) (k : Option Nat) (t : List TSp) : Prop where
  l : SetAt w a m s
  r : SetAt w b k t
  ne : a ≠ b
  x1 : m ≠ some b
  x2 : k ≠ some a
  x3 : ∀ q, m = some q → k ≠ some q
section
variable {w w' : World} {a b : Nat} {m m' k : Option Nat} {s s' t : List TSp}
theorem TwoS.symm (h : TwoS w a m s b k t) : TwoS w b k t a m s := ⟨h.r, h.l, fun e => h.ne e.symm, h.x2, h.x1, fun q e e' => h.x3 q e' e⟩
theorem TwoS.below (h : TwoS w a m s b k t) (hb : Below w.heap.size w w') : TwoS w' a m s b k t := ⟨h.l.below hb, h.r.below hb, h.ne, h.x1, h.x2, h.x3⟩
theorem TwoS.left (h : TwoS w a m s b k t) (hk : Kps (fun j => j ≠ a ∧ m ≠ some j) w w') (hs : SetAt w' a m' s') (hm : m' = m ∨ ∃ q, m' = some q ∧ w.heap.size ≤ q) : TwoS w' a m' s' b k t := by
  have hb : b < w.heap.size := (Array.getElem?_eq_some_iff.1 h.r.box).1
  refine ⟨hs, h.r.kps hk ⟨fun e => h.ne e.symm, h.x1⟩ (fun q e => ⟨fun e' => h.x2 (by rw [e, e']), fun e' => h.x3 q e' e⟩), h.ne, ?_, h.x2, ?_⟩
  · rcases hm with rfl | ⟨q, rfl, hq⟩
    · exact h.x1
    · exact fun e => by have := Option.some.inj e; omega
  · rcases hm with rfl | ⟨q, rfl, hq⟩
    · exact h.x3
    · intro q' e e'
      have := Option.some.inj e
      have := h.r.map.lt q' e'
      omega
end
section
variable {ops : Array Oper} {rest : List Oper} {op : Oper} {a : Act} {w : World} {Q : Exit → Act → World → Prop} {g : Nat}
end
end Go.Proofs.YtckkcpplanfmhaaGreatDoor.Sha

/-
  The statements' own order of digests, LessHash. Nothing that was there turns. Condition: digests of 32 bytes.
-/
namespace Go.Proofs.YtckkcpplanfmhaaGreatDoor.Sha
open Go Go.RowKit
theorem lessL_at : ∀ (k : Nat) (l m : List UInt8), (∀ j, j < k → l.getD j 0 = m.getD j 0) → k < l.length → k < m.length → l.getD k 0 ≠ m.getD k 0 → lessL l m = decide (l.getD k 0 < m.getD k 0)
  | 0, x :: l, y :: m, _, _, _, h => by
    have h' : x ≠ y := h
    rw [less_cons, decide_eq_false h']
    simp
  | k + 1, x :: l, y :: m, hp, hl, hm, h => by
    have h0 : x = y := hp 0 (by omega)
    subst h0
    rw [less_cons, lessL_at k l m (fun j hj => hp (j + 1) (by omega)) (by simpa using hl) (by simpa using hm) h]
    simp
def LsInv (x y : List UInt8) (w : World) (i : Value) (wr : World) : Prop :=
  ∃ k : Nat, k ≤ 32 ∧ i = .int .i64 k ∧ (∀ j, j < k → x.getD j 0 = y.getD j 0) ∧ wr.heap[w.heap.size]? = some (.cells (x.map bV).toArray 44 (0, 0)) ∧ wr.heap[w.heap.size + 1]? = some (.cells (y.map bV).toArray 44 (0, 0)) ∧ Below w.heap.size w wr
theorem bv_lt (x y : UInt8) : decide (bv x < bv y) = decide (x < y) := by
  unfold bv
  by_cases h : x < y
  · rw [decide_eq_true h, decide_eq_true (by rw [UInt8.lt_iff_toNat_lt] at h; omega)]
  · rw [decide_eq_false h, decide_eq_false (by rw [UInt8.lt_iff_toNat_lt] at h; omega)]
set_option maxRecDepth 100000 in
theorem ref_less (x y : List UInt8) (hx : x.length = 32) (hy : y.length = 32) (w : World) :
    Calls Tryz.prog 105 #[.agg (x.map bV).toArray, .agg (y.map bV).toArray] w (SmPost (lessL x y) w) := by
  have HX := Lib.hid hx
  have HY := Lib.hid hy
  clear hx hy
  go_enter Tryz.func105, Tryz.ntmps105
  go_wp2_with fail
  go_loopw [5] (fun i wr => LsInv x y w i wr) (fun i _ => 32 - (intOf i).toNat)
  case atStart => exact ⟨0, by omega, rfl, fun j hj => by omega, heap_alloc2_old _ _ _, heap_alloc2_new _ _ _, ((Below.refl _ _).alloc (Nat.le_refl _) _).alloc (by simp) _⟩
  case round =>
    obtain ⟨k, hk, rfl, he, h1, h2, hb⟩ := hrel
    have H1 := Lib.hid h1
    have H2 := Lib.hid h2
    have HE := Lib.hid he
    have HB := Lib.hid hb
    by_cases hlt : k < 32
    · obtain ⟨a, ha⟩ : ∃ a, a = x.getD k 0 := ⟨_, rfl⟩
      obtain ⟨b, hb2⟩ : ∃ b, b = y.getD k 0 := ⟨_, rfl⟩
      have c1 : wr.cell? ⟨w.heap.size, k, none⟩ = some (.int .u8 (bv a)) := by rw [cell_of_row _ _ _ _ _ _ h1, bV_get _ _ (by rw [HX.out]; exact hlt), ha]
      have c2 : wr.cell? ⟨w.heap.size + 1, k, none⟩ = some (.int .u8 (bv b)) := by rw [cell_of_row _ _ _ _ _ _ h2, bV_get _ _ (by rw [HY.out]; exact hlt), hb2]
      have p0 : 0 ≤ (k : Int) := by omega
      have q0 : (k : Int) < 32 := by omega
      have HA := Lib.hid ha
      have HB2 := Lib.hid hb2
      clear h1 h2 he hb ha hb2
      by_cases hab : a = b
      · have ht : (bv a == bv b) = true := by rw [bv_beq, decide_eq_true hab]
        have ht' : (bv a != bv b) = false := by simp [bne, ht]
        have HAB := Lib.hid hab
        clear hab
        go_wp2_with fail
        go_quiet (fail)
        go_wp2_with fail
        go_roundw
        case rel =>
          refine ⟨k + 1, by omega, by go_num, fun j hj => ?_, H1.out, H2.out, below_drewN HB.out _⟩
          by_cases hj2 : j < k
          · exact HE.out j hj2
          · obtain rfl : j = k := by omega
            rw [← HA.out, ← HB2.out, HAB.out]
        case measure => simp [intOf]; omega
      · have ht : (bv a == bv b) = false := by rw [bv_beq, decide_eq_false hab]
        have ht' : (bv a != bv b) = true := by simp [bne, ht]
        have hless : lessL x y = decide (a < b) := by
          have h := lessL_at k x y HE.out (by rw [HX.out]; exact hlt) (by rw [HY.out]; exact hlt) (by rw [← HA.out, ← HB2.out]; exact hab)
          rw [← HA.out, ← HB2.out] at h
          exact h
        have HLS := Lib.hid hless
        clear hab hless
        go_wp2_with fail
        go_quiet (fail)
        go_wp2_with fail
        generalize hwk : World.drewN _ _ = wk
        have d1 : wk.cell? ⟨w.heap.size, k, none⟩ = some (.int .u8 (bv a)) := by rw [← hwk]; exact c1
        have d2 : wk.cell? ⟨w.heap.size + 1, k, none⟩ = some (.int .u8 (bv b)) := by rw [← hwk]; exact c2
        have HW := Lib.hid (show Below w.heap.size w wk by rw [← hwk]; exact below_drewN HB.out _)
        clear hwk c1 c2
        go_quiet (fail)
        go_wp2_with fail
        go_ret
        exact ⟨by rw [HLS.out, ← bv_lt]; rfl, below_drewN HW.out _⟩
    · have hge : ¬ (k : Int) < 32 := by omega
      have hxy : x = y := list_eq_of HX.out HY.out (fun j hj => he j (by omega))
      have HXY := Lib.hid hxy
      clear h1 h2 he hb hxy
      go_wp2_with fail
      go_ret
      exact ⟨by rw [HXY.out, less_self]; rfl, HB.out⟩
end Go.Proofs.YtckkcpplanfmhaaGreatDoor.Sha

/-
  The statements' own order of places. Nothing that was there turns. Condition: digests of 32 bytes.
-/
namespace Go.Proofs.YtckkcpplanfmhaaGreatDoor.Sha
open Go Go.RowKit
set_option maxRecDepth 100000 in
theorem rlesspt_any (h h' : List UInt8) (n n' : Nat) (hh : h.length = 32) (hh' : h'.length = 32) (b : Bool) (hb : b = lessPt h n h' n') (w : World) :
    Calls Tryz.prog 75 #[.agg (ptL h n).toArray, .agg (ptL h' n').toArray] w fun e w' => e = .returned (.bool b) ∧ Below w.heap.size w w' := by
  have hl : (h.map bV).length = 32 := by simp [hh]
  have hl' : (h'.map bV).length = 32 := by simp [hh']
  have HL := Lib.hid hl
  have HL' := Lib.hid hl'
  have HH := Lib.hid hh
  have HH' := Lib.hid hh'
  have HB := Lib.hid hb
  clear hl hl' hh hh' hb
  go_enter Tryz.func75, Tryz.ntmps75
  go_upto_region 1 with fail
  obtain ⟨B, F, F'⟩ := pt_boxes w h h' n n' 50
  generalize hw1 : World.alloc _ _ = w1
  rw [hw1] at B F F'
  have B := Lib.hid B
  have F := Lib.hid F
  have F' := Lib.hid F'
  clear hw1
  go_wp2_with ((with_reducible show wpList _ _ _ _ _ _); first | (refine wpList_load_mid rfl 44 (.tmp 5) rfl w.heap.size 0 rfl (h.map bV) _ (pt_hash F.out) Tryz.underlying44 rfl (by rw [HL.out]; kernel_rfl) ?_; go_frame) | (refine wpList_load_mid rfl 44 (.tmp 7) rfl (w.heap.size + 1) 0 rfl (h'.map bV) _ (pt_hash F'.out) Tryz.underlying44 rfl (by rw [HL'.out]; kernel_rfl) ?_; go_frame))
  refine (same_b h h' HH.out HH'.out _ rfl _).mono ?_
  rintro e w2 ⟨rfl, hb2⟩
  have c : w2.cell? ⟨w.heap.size, 32, none⟩ = some (.int .u32 (n : Int)) := pt_num HH.out (row_below F.out hb2)
  have c' : w2.cell? ⟨w.heap.size + 1, 32, none⟩ = some (.int .u32 (n' : Int)) := pt_num HH'.out (row_below F'.out hb2)
  have B2 := Lib.hid (B.out.trans (hb2.mono B.out.size))
  have F2 := Lib.hid (row_below F.out hb2)
  have F2' := Lib.hid (row_below F'.out hb2)
  clear hb2 F F' B
  by_cases he : h = h'
  · rw [decide_eq_true he]
    have HE := Lib.hid he
    clear he
    go_wp2_with fail
    go_ret
    exact ⟨by rw [HB.out, lessPt, if_pos HE.out]; congr 2, B2.out⟩
  · rw [decide_eq_false he]
    have HE := Lib.hid he
    clear he c c'
    go_wp2_with ((with_reducible show wpList _ _ _ _ _ _); first | (refine wpList_load_mid rfl 44 (.tmp 15) rfl w.heap.size 0 rfl (h.map bV) _ (pt_hash F2.out) Tryz.underlying44 rfl (by rw [HL.out]; kernel_rfl) ?_; go_frame) | (refine wpList_load_mid rfl 44 (.tmp 17) rfl (w.heap.size + 1) 0 rfl (h'.map bV) _ (pt_hash F2'.out) Tryz.underlying44 rfl (by rw [HL'.out]; kernel_rfl) ?_; go_frame))
    refine (ref_less h h' HH.out HH'.out _).mono ?_
    rintro e w3 ⟨rfl, hb3⟩
    have B3 := Lib.hid (B2.out.trans (hb3.mono B2.out.size))
    clear hb3
    go_wp2_with fail
    go_ret
    exact ⟨by rw [HB.out, lessPt, if_neg HE.out]; rfl, B3.out⟩
end Go.Proofs.YtckkcpplanfmhaaGreatDoor.Sha

/-
  The statements' own set: a box with an own row of coins in the order of their places; where a place is, or would be. Nothing that was there turns. Conditions: the set lies where the pointer says, in order, at most 2^20 coins.
-/
namespace Go.Proofs.YtckkcpplanfmhaaGreatDoor.Sha
open Go Go.RowKit
/-- The statements' own set: its row is one's own. -/
structure RefAt (w : World) (base a : Nat) (v : Value) (L : List TSp) : Prop where
  box : w.heap[a]? = some (.cells #[v] 97 (0, 0))
  row : RwOwn 68 84 base w v (L.map spL)
section
variable {w w' : World} {base a : Nat} {v : Value} {L : List TSp}
theorem RefAt.below (h : RefAt w base a v L) (hb : Below w.heap.size w w') : RefAt w' base a v L := ⟨row_below h.box hb, h.row.keep hb⟩
theorem RefAt.at (h : RefAt w base a v L) : RwAt 68 w v (L.map spL) := h.row.at (by omega)
theorem RefAt.cell (h : RefAt w base a v L) : w.cell? ⟨a, 0, none⟩ = some v := by
  rw [cell_of_row _ _ _ _ _ _ h.box]
  rfl
theorem RefAt.kps {F : Nat → Prop} (h : RefAt w base a v L) (hk : Kps F w w') (ha : F a) (hf : ∀ b, v.ownBlock = some b → F b) : RefAt w' base a v L := by
  refine ⟨row_kps h.box hk ha, ?_, h.row.2⟩
  obtain ⟨h1, h2⟩ := h.row.1
  refine ⟨h1, ?_⟩
  rcases h2 with h2 | ⟨g, cap, cur, hv, hb, hc, h3⟩
  · exact .inl h2
  · exact .inr ⟨g, cap, cur, hv, hb, row_kps hc hk (hf g (by rw [hv]; rfl)), h3⟩
theorem RefAt.lower {base' : Nat} (h : RefAt w base a v L) (hb : base' ≤ base) : RefAt w base' a v L := by
  refine ⟨h.box, ?_, h.row.2⟩
  obtain ⟨h1, h2⟩ := h.row.1
  refine ⟨h1, ?_⟩
  rcases h2 with h2 | ⟨g, cap, cur, hv, hb', h3⟩
  · exact .inl h2
  · exact .inr ⟨g, cap, cur, hv, Nat.le_trans hb hb', h3⟩
/-- Its blocks are other ones than a set's. -/
theorem RefAt.apart {b : Nat} {m : Option Nat} {l : List TSp} (h : RefAt w base a v L) (hs : SetAt w b m l) : (a ≠ b ∧ m ≠ some a) ∧ (∀ q, v.ownBlock = some q → q ≠ b ∧ m ≠ some q) := by
  have hm : ∀ (x : Nat) (cs : Array Value) (T : TypeId) (fr : Nat × Nat), w.heap[x]? = some (.cells cs T fr) → m ≠ some x := by
    intro x cs T fr hx e
    have hmap := hs.map
    rw [e] at hmap
    obtain ⟨_, _, h1, _⟩ := hmap
    rw [hx] at h1
    cases h1
  have hb : ∀ (x : Nat) (cs : Array Value) (T : TypeId) (fr : Nat × Nat), T ≠ 76 → w.heap[x]? = some (.cells cs T fr) → x ≠ b := by
    intro x cs T fr hT hx e
    rw [e, hs.box] at hx
    cases hx
    exact hT rfl
  refine ⟨⟨hb a _ _ _ (by decide) h.box, hm a _ _ _ h.box⟩, fun q hq => ?_⟩
  rcases h.row.1.2 with ⟨hv, _⟩ | ⟨g, cap, cur, hv, _, hc, _⟩
  · rw [hv] at hq
    cases hq
  · rw [hv] at hq
    cases hq
    exact ⟨hb g _ _ _ (by decide) hc, hm g _ _ _ hc⟩
end
/-! Where a place is, or would be. -/
def ltP (x : TSp) (p : TPt) : Bool := lessPt x.at_.h x.at_.n p.h p.n
def Rank (L : List TSp) (p : TPt) (k : Nat) : Prop := k ≤ L.length ∧ (∀ i x, L[i]? = some x → i < k → ltP x p = true) ∧ (∀ i x, L[i]? = some x → k ≤ i → ltP x p = false)
section
variable {L : List TSp} {p : TPt}
theorem sorted_lt (hs : SortedC L) {i j : Nat} {x y : TSp} (hi : L[i]? = some x) (hj : L[j]? = some y) (h : i < j) : ltSp x y = true := by
  obtain ⟨h1, h2⟩ := List.getElem?_eq_some_iff.1 hi
  obtain ⟨h3, h4⟩ := List.getElem?_eq_some_iff.1 hj
  have := (List.pairwise_iff_getElem.1 hs) i j h1 h3 h
  rwa [h2, h4] at this
theorem rank_up (hs : SortedC L) (ho : ∀ x ∈ L, SpOk x) (hp : PtOk p) {m : Nat} {x : TSp} (hm : L[m]? = some x) (h : ltP x p = true) : ∀ i y, L[i]? = some y → i < m + 1 → ltP y p = true := by
  intro i y hy hi
  rcases Nat.lt_or_ge i m with h1 | h1
  · have oy := ho y (List.mem_of_getElem? hy)
    have ox := ho x (List.mem_of_getElem? hm)
    exact lessPt_trans (by rw [oy.1.1, ox.1.1]) (by rw [ox.1.1, hp.1]) (sorted_lt hs hy hm h1) h
  · have e : i = m := by omega
    rw [e, hm] at hy
    cases hy
    exact h
theorem rank_down (hs : SortedC L) (ho : ∀ x ∈ L, SpOk x) (hp : PtOk p) {m : Nat} {x : TSp} (hm : L[m]? = some x) (h : ltP x p = false) : ∀ i y, L[i]? = some y → m ≤ i → ltP y p = false := by
  intro i y hy hi
  rcases Nat.lt_or_ge m i with h1 | h1
  · cases hc : ltP y p with
    | false => rfl
    | true =>
      have oy := ho y (List.mem_of_getElem? hy)
      have ox := ho x (List.mem_of_getElem? hm)
      have := lessPt_trans (by rw [ox.1.1, oy.1.1]) (by rw [oy.1.1, hp.1]) (sorted_lt hs hm hy h1) hc
      unfold ltP at h
      rw [this] at h
      cases h
  · have e : i = m := by omega
    rw [e, hm] at hy
    cases hy
    exact h
/-- What is there stands at its rank. -/
theorem rank_there (hs : SortedC L) {k : Nat} (hr : Rank L p k) {j : Nat} {x : TSp} (hj : L[j]? = some x) (hx : x.at_ = p) : j = k := by
  have h1 : ltP x p = false := by unfold ltP; rw [hx]; exact lessPt_self _ _
  rcases Nat.lt_trichotomy j k with h | h | h
  · rw [hr.2.1 j x hj h] at h1
    cases h1
  · exact h
  · have hjl := (List.getElem?_eq_some_iff.1 hj).1
    obtain ⟨y, hy⟩ : ∃ y, L[k]? = some y := ⟨_, List.getElem?_eq_getElem (Nat.lt_trans h hjl)⟩
    have h2 := sorted_lt hs hy hj h
    have h3 := hr.2.2 k y hy (Nat.le_refl _)
    unfold ltSp at h2
    unfold ltP at h3
    rw [hx, h3] at h2
    cases h2
theorem getC_at {x : TSp} (ha : L.Pairwise (fun x y => x.at_ ≠ y.at_)) {k : Nat} (hs : SortedC L) (hr : Rank L p k) (hk : L[k]? = some x) : getC L p = if x.at_ = p then some x.coin else none := by
  by_cases h : x.at_ = p
  · rw [if_pos h]
    exact getC_some ha hk h
  · rw [if_neg h]
    refine getC_none fun y hy e => ?_
    obtain ⟨j, hj⟩ := List.getElem?_of_mem hy
    have := rank_there hs hr hj e
    rw [this, hk] at hj
    cases hj
    exact h e
theorem getC_past {k : Nat} (hs : SortedC L) (hr : Rank L p k) (hk : L.length ≤ k) : getC L p = none := by
  refine getC_none fun y hy e => ?_
  obtain ⟨j, hj⟩ := List.getElem?_of_mem hy
  have := rank_there hs hr hj e
  have := (List.getElem?_eq_some_iff.1 hj).1
  omega
theorem sorted_apart (hs : SortedC L) : L.Pairwise (fun x y => x.at_ ≠ y.at_) := hs.imp fun {x y} h e => by
  unfold ltSp at h
  rw [e, lessPt_self] at h
  cases h
end
def CnPlInv (L : List TSp) (p : TPt) (w : World) (vl vh : Value) (wr : World) : Prop :=
  ∃ lo hi : Nat, lo ≤ hi ∧ hi ≤ L.length ∧ vl = .int .i64 (lo : Int) ∧ vh = .int .i64 (hi : Int) ∧ (∀ i x, L[i]? = some x → i < lo → ltP x p = true) ∧ (∀ i x, L[i]? = some x → hi ≤ i → ltP x p = false) ∧ Below w.heap.size w wr
set_option maxHeartbeats 4000000 in
set_option maxRecDepth 100000 in
theorem rplace_any (w : World) (base a : Nat) (v : Value) (L : List TSp) (p : TPt) (h : RefAt w base a v L) (hs : SortedC L) (ho : ∀ x ∈ L, SpOk x) (hp : PtOk p) (hn : L.length ≤ 1048576) :
    Calls Tryz.prog 38 #[.pointer (some ⟨a, 0, none⟩), .agg (ptC p).toArray] w fun e w' => ∃ k : Nat, e = .returned (.tuple #[.int .i64 (k : Int), .bool (getC L p).isSome]) ∧ Rank L p k ∧ Below w.heap.size w w' := by
  obtain ⟨sp, cap, rfl⟩ := h.at.shape
  rw [List.length_map] at h
  have HR := Lib.hid h.at
  have RC0 : Hid (∀ W, Below w.heap.size w W → W.cell? ⟨a, 0, none⟩ = some (.slice sp L.length cap)) := fun W hW => (h.below hW).cell
  obtain ⟨n, hnl⟩ : ∃ n, n = L.length := ⟨_, rfl⟩
  rw [← hnl] at HR RC0 hn
  have N := Lib.hid hnl
  have HS := Lib.hid hs
  have OK := Lib.hid ho
  have HP := Lib.hid hp
  have RC := Lib.hid RC0.out
  have LP : Hid ((ptC p).length = 33) := ptC_length hp
  clear h hs ho hp hnl RC0
  go_enter Tryz.func38, Tryz.ntmps38
  go_upto_region 1 with fail
  have f3 := heap_alloc_new w (.cells (ptC p).toArray 50 (0, 0))
  have b0 := (Below.refl w.heap.size w).alloc (Nat.le_refl _) (.cells (ptC p).toArray 50 (0, 0))
  generalize hw1 : World.alloc _ _ = w1
  have e1 : w.alloc (.cells (ptC p).toArray 50 (0, 0)) = w1 := hw1
  rw [e1] at f3 b0
  obtain ⟨g3, hg3⟩ : ∃ g3, g3 = w.heap.size := ⟨_, rfl⟩
  have G3 : Hid (w.heap.size ≤ g3) := by show _ ≤ _; rw [hg3]; exact Nat.le_refl _
  rw [← hg3] at f3 ⊢
  have F30 : Hid (w1.rangeAt g3 0 (ptC p)) := range_of_box f3
  have W1 : Hid (w.heap.size ≤ w1.heap.size) := b0.size
  have B1 := Lib.hid b0
  obtain ⟨cp, hcp⟩ : ∃ cp, cp = ptC p := ⟨_, rfl⟩
  rw [← hcp] at F30 LP
  have CP := Lib.hid hcp
  have RC1 : Hid (∀ W, Below w1.heap.size w1 W → W.cell? ⟨a, 0, none⟩ = some (.slice sp n cap)) := fun W hW => RC.out W (B1.out.trans (hW.mono W1.out))
  have F3 : Hid (∀ W, Below w1.heap.size w1 W → W.rangeAt g3 0 cp) := fun W hW => range_below F30.out hW
  have HR1 := Lib.hid (HR.out.below b0)
  have rc1 := RC1.out w1 (Below.refl _ _)
  clear f3 b0 hw1 e1 hg3 hcp F30 RC HR
  go_wp2_with fail
  go_loopw [6, 7] (fun vl vh wr => CnPlInv L p w1 vl vh wr) (fun vl vh _ => (intOf vh).toNat - (intOf vl).toNat)
  case atStart => exact ⟨0, n, Nat.zero_le _, by rw [N.out]; exact Nat.le_refl _, rfl, rfl, (fun i x _ hi => by omega), (fun i x hx hi => by have := (List.getElem?_eq_some_iff.1 hx).1; have := N.out; omega), Below.refl _ _⟩
  case round =>
    clear rc1
    obtain ⟨lo, hi, hlh, hhn, rfl, rfl, hlo, hhi, hb⟩ := hrel
    have LO := Lib.hid hlo
    have HI := Lib.hid hhi
    have BB := Lib.hid hb
    rw [← N.out] at hhn
    clear hlo hhi hb
    by_cases hlt : lo < hi
    · obtain ⟨b, o, rfl, hg⟩ := HR1.out.get (by omega)
      obtain ⟨md, hmd⟩ : ∃ md, md = (lo + hi) / 2 := ⟨_, rfl⟩
      have hml : md < L.length := by rw [← N.out]; omega
      obtain ⟨x, hx⟩ : ∃ x, L[md]? = some x := ⟨_, List.getElem?_eq_getElem hml⟩
      have ox := OK.out x (List.mem_of_getElem? hx)
      have hr := hg md (spL x) (by rw [List.getElem?_map, hx]; rfl)
      have PX : Hid (∀ W, Below w1.heap.size w1 W → W.rangeAt b (o + md * 68) (ptC x.at_)) := fun W hW => sp_pt (range_below hr hW)
      have LX : Hid ((ptC x.at_).length = 33) := ptC_length ox.1
      have LL0 : Hid (∀ W, Calls Tryz.prog 75 #[.agg (ptC x.at_).toArray, .agg (ptC p).toArray] W fun e w' => e = .returned (.bool (ltP x p)) ∧ Below W.heap.size W w') := fun W => rlesspt_any _ _ _ _ ox.1.1 HP.out.1 (ltP x p) rfl W
      have UP : Hid (ltP x p = true → ∀ i y, L[i]? = some y → i < md + 1 → ltP y p = true) := rank_up HS.out OK.out HP.out hx
      have DN : Hid (ltP x p = false → ∀ i y, L[i]? = some y → md ≤ i → ltP y p = false) := rank_down HS.out OK.out HP.out hx
      obtain ⟨cx, hcx⟩ : ∃ cx, cx = ptC x.at_ := ⟨_, rfl⟩
      rw [← hcx] at PX LX LL0
      rw [← CP.out] at LL0
      obtain ⟨q, hq⟩ : ∃ q, q = ltP x p := ⟨_, rfl⟩
      rw [← hq] at LL0 UP DN
      have LL := Lib.hid LL0.out
      have p0 : 0 ≤ (md : Int) := by omega
      have q0 : (md : Int) < (n : Int) := by omega
      have r0 : 0 ≤ (lo : Int) := by omega
      have r1 : (lo : Int) ≤ 1048576 := by omega
      have r2 : 0 ≤ (hi : Int) := by omega
      have r3 : (hi : Int) ≤ 1048576 := by omega
      have t0 : ((lo : Int) + (hi : Int)).tdiv 2 = (md : Int) := by rw [Int.tdiv_eq_ediv_of_nonneg (by omega)]; omega
      have MD1 : lo ≤ md := by omega
      have MD2 : md < hi := by omega
      clear hg hx ox hr hml hcx hq LL0 hmd
      go_upto_region 5 with fail
      cases q with
      | true =>
        refine wp_region_held_drew (S := (fun w' => Below w1.heap.size w1 w')) (by kernel_rfl) (Below.drew BB.out) (fun hHeld => ?_)
        generalize hwd : wr.drew = wd at  hHeld ⊢
        clear hwd
        refine held_take (i := 0) (v := (.pointer (some ⟨a, 0, none⟩))) rfl (by kernel_rfl) (by kernel_rfl) (by kernel_rfl) (fun _ _ _ h => h) (Or.inl ⟨by rfl, fun w' _ => by kernel_rfl⟩) hHeld ?_
        go_frame
        refine held_take (i := 1) (v := (.pointer (some ⟨a, 0, none⟩))) rfl (by kernel_rfl) (by kernel_rfl) (by kernel_rfl) (fun _ _ _ h => h) (Or.inl ⟨by rfl, fun w' _ => by kernel_rfl⟩) hHeld ?_
        go_frame
        refine held_take (i := 2) (v := (.pointer (some ⟨a, 0, none⟩))) rfl (by kernel_rfl) (by kernel_rfl) (by kernel_rfl) (fun _ _ _ h => h) (Or.inl ⟨by rfl, fun w' _ => by kernel_rfl⟩) hHeld ?_
        go_frame
        refine held_take (i := 3) (v := (.slice (some ⟨b, o, none⟩) n cap)) rfl (by kernel_rfl) (by kernel_rfl) (by kernel_rfl) (fun _ _ _ h => h) (yieldsIf_load_one (by rfl) 22 (.tmp 23) rfl a (0) rfl _ _ (fun w' hw' => RC1.out w' hw') Tryz.underlying22 rfl) hHeld ?_
        go_frame
        refine held_take (i := 4) (v := (.int .i64 (md : Int))) rfl (by kernel_rfl) (by kernel_rfl) (by kernel_rfl) (fun _ _ _ h => h) (Or.inl ⟨by rfl, fun w' _ => by kernel_rfl⟩) hHeld ?_
        go_frame
        refine held_take (i := 5) (v := (.pointer (some ⟨b, o + md * 68, none⟩))) rfl (by kernel_rfl) (by kernel_rfl) (by kernel_rfl) (fun _ _ _ h => h) (Or.inl ⟨by rfl, fun w' _ => by go_simp⟩) hHeld ?_
        go_frame
        refine held_take (i := 6) (v := (.pointer (some ⟨b, o + md * 68, none⟩))) rfl (by kernel_rfl) (by kernel_rfl) (by kernel_rfl) (fun _ _ _ h => h) (Or.inl ⟨by rfl, fun w' _ => by kernel_rfl⟩) hHeld ?_
        go_frame
        refine held_take (i := 7) (v := (.agg cx.toArray)) rfl (by kernel_rfl) (by kernel_rfl) (by kernel_rfl) (fun _ _ _ h => h) (Sha.yieldsIf_load_mid (by rfl) 50 (.tmp 27) rfl b (o + md * 68) rfl cx _ (fun w' hw' => PX.out w' hw') Tryz.underlying50 rfl (by rw [LX.out]; kernel_rfl)) hHeld ?_
        go_frame
        refine held_take (i := 8) (v := (.agg cp.toArray)) rfl (by kernel_rfl) (by kernel_rfl) (by kernel_rfl) (fun _ _ _ h => h) (Sha.yieldsIf_load_mid (by rfl) 50 (.tmp 3) rfl g3 (0) rfl cp _ (fun w' hw' => F3.out w' hw') Tryz.underlying50 rfl (by rw [LP.out]; kernel_rfl)) hHeld ?_
        go_frame
        refine wpAnyH_ready (rs := [9]) (by kernel_rfl) (by simp) (held_cons rfl (fun K hK => ?_) AllReadyH.nil)
        go_simp
        refine (LL.out _).mono ?_
        rintro e v1 ⟨rfl, bb⟩
        have hv1 := hHeld.trans (bb.mono hHeld.size)
        clear bb hHeld
        go_wp2_with fail
        refine hK.out _ _ hv1 (fun hHeld => ?_)
        clear hK K hv1
        refine wpAnyH_done (by kernel_rfl) ?_ _
        have BH := Lib.hid hHeld
        clear hHeld
        go_wp2_with fail
        go_roundw
        case rel => exact ⟨md + 1, hi, by omega, by rw [← N.out]; exact hhn, by go_num, rfl, UP.out (by first | rfl | trivial), HI.out, BH.out⟩
        case measure => simp [intOf]; omega
      | false =>
        refine wp_region_held_drew (S := (fun w' => Below w1.heap.size w1 w')) (by kernel_rfl) (Below.drew BB.out) (fun hHeld => ?_)
        generalize hwd : wr.drew = wd at  hHeld ⊢
        clear hwd
        refine held_take (i := 0) (v := (.pointer (some ⟨a, 0, none⟩))) rfl (by kernel_rfl) (by kernel_rfl) (by kernel_rfl) (fun _ _ _ h => h) (Or.inl ⟨by rfl, fun w' _ => by kernel_rfl⟩) hHeld ?_
        go_frame
        refine held_take (i := 1) (v := (.pointer (some ⟨a, 0, none⟩))) rfl (by kernel_rfl) (by kernel_rfl) (by kernel_rfl) (fun _ _ _ h => h) (Or.inl ⟨by rfl, fun w' _ => by kernel_rfl⟩) hHeld ?_
        go_frame
        refine held_take (i := 2) (v := (.pointer (some ⟨a, 0, none⟩))) rfl (by kernel_rfl) (by kernel_rfl) (by kernel_rfl) (fun _ _ _ h => h) (Or.inl ⟨by rfl, fun w' _ => by kernel_rfl⟩) hHeld ?_
        go_frame
        refine held_take (i := 3) (v := (.slice (some ⟨b, o, none⟩) n cap)) rfl (by kernel_rfl) (by kernel_rfl) (by kernel_rfl) (fun _ _ _ h => h) (yieldsIf_load_one (by rfl) 22 (.tmp 23) rfl a (0) rfl _ _ (fun w' hw' => RC1.out w' hw') Tryz.underlying22 rfl) hHeld ?_
        go_frame
        refine held_take (i := 4) (v := (.int .i64 (md : Int))) rfl (by kernel_rfl) (by kernel_rfl) (by kernel_rfl) (fun _ _ _ h => h) (Or.inl ⟨by rfl, fun w' _ => by kernel_rfl⟩) hHeld ?_
        go_frame
        refine held_take (i := 5) (v := (.pointer (some ⟨b, o + md * 68, none⟩))) rfl (by kernel_rfl) (by kernel_rfl) (by kernel_rfl) (fun _ _ _ h => h) (Or.inl ⟨by rfl, fun w' _ => by go_simp⟩) hHeld ?_
        go_frame
        refine held_take (i := 6) (v := (.pointer (some ⟨b, o + md * 68, none⟩))) rfl (by kernel_rfl) (by kernel_rfl) (by kernel_rfl) (fun _ _ _ h => h) (Or.inl ⟨by rfl, fun w' _ => by kernel_rfl⟩) hHeld ?_
        go_frame
        refine held_take (i := 7) (v := (.agg cx.toArray)) rfl (by kernel_rfl) (by kernel_rfl) (by kernel_rfl) (fun _ _ _ h => h) (Sha.yieldsIf_load_mid (by rfl) 50 (.tmp 27) rfl b (o + md * 68) rfl cx _ (fun w' hw' => PX.out w' hw') Tryz.underlying50 rfl (by rw [LX.out]; kernel_rfl)) hHeld ?_
        go_frame
        refine held_take (i := 8) (v := (.agg cp.toArray)) rfl (by kernel_rfl) (by kernel_rfl) (by kernel_rfl) (fun _ _ _ h => h) (Sha.yieldsIf_load_mid (by rfl) 50 (.tmp 3) rfl g3 (0) rfl cp _ (fun w' hw' => F3.out w' hw') Tryz.underlying50 rfl (by rw [LP.out]; kernel_rfl)) hHeld ?_
        go_frame
        refine wpAnyH_ready (rs := [9]) (by kernel_rfl) (by simp) (held_cons rfl (fun K hK => ?_) AllReadyH.nil)
        go_simp
        refine (LL.out _).mono ?_
        rintro e v1 ⟨rfl, bb⟩
        have hv1 := hHeld.trans (bb.mono hHeld.size)
        clear bb hHeld
        go_wp2_with fail
        refine hK.out _ _ hv1 (fun hHeld => ?_)
        clear hK K hv1
        refine wpAnyH_done (by kernel_rfl) ?_ _
        have BH := Lib.hid hHeld
        clear hHeld
        go_wp2_with fail
        go_roundw
        case rel => exact ⟨lo, md, MD1, by rw [← N.out]; omega, rfl, rfl, LO.out, DN.out (by first | rfl | trivial), BH.out⟩
        case measure => simp [intOf]; omega
    · have hge : ¬ (lo : Int) < (hi : Int) := by omega
      obtain rfl : hi = lo := by omega
      have RK : Hid (Rank L p hi) := ⟨by rw [← N.out]; exact hhn, LO.out, HI.out⟩
      obtain ⟨k, hk⟩ : ∃ k, k = hi := ⟨_, rfl⟩
      rw [← hk] at hge hlh hhn RK ⊢
      clear hlt LO HI hk
      by_cases hkn : k < n
      · obtain ⟨b, o, rfl, hg⟩ := HR1.out.get (by omega)
        have hkl : k < L.length := by rw [← N.out]; omega
        obtain ⟨x, hx⟩ : ∃ x, L[k]? = some x := ⟨_, List.getElem?_eq_getElem hkl⟩
        have ox := OK.out x (List.mem_of_getElem? hx)
        have hr := hg k (spL x) (by rw [List.getElem?_map, hx]; rfl)
        have PX : Hid (∀ W, Below w1.heap.size w1 W → W.rangeAt b (o + k * 68) (ptC x.at_)) := fun W hW => sp_pt (range_below hr hW)
        have LX : Hid ((ptC x.at_).length = 33) := ptC_length ox.1
        obtain ⟨q, hq⟩ : ∃ q, q = (decide (x.at_.h = p.h) && decide (x.at_.n = p.n)) := ⟨_, rfl⟩
        have LL0 : Hid (∀ W, Calls Tryz.prog 23 #[.agg (ptC x.at_).toArray, .agg (ptC p).toArray] W fun e w' => e = .returned (.bool q) ∧ Below W.heap.size W w') := fun W => samept_any _ _ _ _ ox.1.1 HP.out.1 q hq W
        have IS : Hid ((getC L p).isSome = q) := by
          show _ = _
          rw [getC_at (sorted_apart HS.out) HS.out RK.out hx, hq]
          obtain ⟨⟨xh, xn⟩, xc⟩ := x
          obtain ⟨ph, pn⟩ := p
          by_cases e1 : xh = ph <;> by_cases e2 : xn = pn <;> simp [e1, e2]
        obtain ⟨cx, hcx⟩ : ∃ cx, cx = ptC x.at_ := ⟨_, rfl⟩
        rw [← hcx] at PX LX LL0
        rw [← CP.out] at LL0
        have LL := Lib.hid LL0.out
        have p0 : 0 ≤ (k : Int) := by omega
        have q0 : (k : Int) < (n : Int) := by omega
        clear hg hx ox hr hkl hcx hq LL0
        go_upto_region 8 with fail
        refine wp_region_held_drew (S := (fun w' => Below w1.heap.size w1 w')) (by kernel_rfl) (Below.drew BB.out) (fun hHeld => ?_)
        generalize hwd : wr.drew = wd at  hHeld ⊢
        clear hwd
        refine held_take (i := 0) (v := (.int .i64 (k : Int))) rfl (by kernel_rfl) (by kernel_rfl) (by kernel_rfl) (fun _ _ _ h => h) (Or.inl ⟨by rfl, fun w' _ => by kernel_rfl⟩) hHeld ?_
        go_frame
        refine held_take (i := 1) (v := (.int .i64 (k : Int))) rfl (by kernel_rfl) (by kernel_rfl) (by kernel_rfl) (fun _ _ _ h => h) (Or.inl ⟨by rfl, fun w' _ => by kernel_rfl⟩) hHeld ?_
        go_frame
        refine held_take (i := 2) (v := (.pointer (some ⟨a, 0, none⟩))) rfl (by kernel_rfl) (by kernel_rfl) (by kernel_rfl) (fun _ _ _ h => h) (Or.inl ⟨by rfl, fun w' _ => by kernel_rfl⟩) hHeld ?_
        go_frame
        refine held_take (i := 3) (v := (.pointer (some ⟨a, 0, none⟩))) rfl (by kernel_rfl) (by kernel_rfl) (by kernel_rfl) (fun _ _ _ h => h) (Or.inl ⟨by rfl, fun w' _ => by kernel_rfl⟩) hHeld ?_
        go_frame
        refine held_take (i := 4) (v := (.pointer (some ⟨a, 0, none⟩))) rfl (by kernel_rfl) (by kernel_rfl) (by kernel_rfl) (fun _ _ _ h => h) (Or.inl ⟨by rfl, fun w' _ => by kernel_rfl⟩) hHeld ?_
        go_frame
        refine held_take (i := 5) (v := (.slice (some ⟨b, o, none⟩) n cap)) rfl (by kernel_rfl) (by kernel_rfl) (by kernel_rfl) (fun _ _ _ h => h) (yieldsIf_load_one (by rfl) 22 (.tmp 38) rfl a (0) rfl _ _ (fun w' hw' => RC1.out w' hw') Tryz.underlying22 rfl) hHeld ?_
        go_frame
        refine held_take (i := 6) (v := (.int .i64 (n : Int))) rfl (by kernel_rfl) (by kernel_rfl) (by kernel_rfl) (fun _ _ _ h => h) (Or.inl ⟨by rfl, fun w' _ => by go_simp⟩) hHeld ?_
        go_frame
        refine held_take (i := 7) (v := (.bool true)) rfl (by kernel_rfl) (by kernel_rfl) (by kernel_rfl) (fun _ _ _ h => h) (Or.inl ⟨by rfl, fun w' _ => by go_simp⟩) hHeld ?_
        go_frame
        refine held_take (i := 8) (v := (.bool true)) rfl (by kernel_rfl) (by kernel_rfl) (by kernel_rfl) (fun _ _ _ h => h) (Or.inl ⟨by rfl, fun w' _ => by kernel_rfl⟩) hHeld ?_
        go_frame
        refine held_take (i := 9) (v := (.pointer (some ⟨a, 0, none⟩))) rfl (by kernel_rfl) (by kernel_rfl) (by kernel_rfl) (fun _ _ _ h => h) (Or.inl ⟨by rfl, fun w' _ => by kernel_rfl⟩) hHeld ?_
        go_frame
        refine held_take (i := 10) (v := (.pointer (some ⟨a, 0, none⟩))) rfl (by kernel_rfl) (by kernel_rfl) (by kernel_rfl) (fun _ _ _ h => h) (Or.inl ⟨by rfl, fun w' _ => by kernel_rfl⟩) hHeld ?_
        go_frame
        refine held_take (i := 11) (v := (.pointer (some ⟨a, 0, none⟩))) rfl (by kernel_rfl) (by kernel_rfl) (by kernel_rfl) (fun _ _ _ h => h) (Or.inl ⟨by rfl, fun w' _ => by kernel_rfl⟩) hHeld ?_
        go_frame
        refine held_take (i := 12) (v := (.slice (some ⟨b, o, none⟩) n cap)) rfl (by kernel_rfl) (by kernel_rfl) (by kernel_rfl) (fun _ _ _ h => h) (yieldsIf_load_one (by rfl) 22 (.tmp 45) rfl a (0) rfl _ _ (fun w' hw' => RC1.out w' hw') Tryz.underlying22 rfl) hHeld ?_
        go_frame
        refine held_take (i := 13) (v := (.int .i64 (k : Int))) rfl (by kernel_rfl) (by kernel_rfl) (by kernel_rfl) (fun _ _ _ h => h) (Or.inl ⟨by rfl, fun w' _ => by kernel_rfl⟩) hHeld ?_
        go_frame
        refine held_take (i := 14) (v := (.pointer (some ⟨b, o + k * 68, none⟩))) rfl (by kernel_rfl) (by kernel_rfl) (by kernel_rfl) (fun _ _ _ h => h) (Or.inl ⟨by rfl, fun w' _ => by go_simp⟩) hHeld ?_
        go_frame
        refine held_take (i := 15) (v := (.pointer (some ⟨b, o + k * 68, none⟩))) rfl (by kernel_rfl) (by kernel_rfl) (by kernel_rfl) (fun _ _ _ h => h) (Or.inl ⟨by rfl, fun w' _ => by kernel_rfl⟩) hHeld ?_
        go_frame
        refine held_take (i := 16) (v := (.agg cx.toArray)) rfl (by kernel_rfl) (by kernel_rfl) (by kernel_rfl) (fun _ _ _ h => h) (Sha.yieldsIf_load_mid (by rfl) 50 (.tmp 49) rfl b (o + k * 68) rfl cx _ (fun w' hw' => PX.out w' hw') Tryz.underlying50 rfl (by rw [LX.out]; kernel_rfl)) hHeld ?_
        go_frame
        refine held_take (i := 17) (v := (.agg cp.toArray)) rfl (by kernel_rfl) (by kernel_rfl) (by kernel_rfl) (fun _ _ _ h => h) (Sha.yieldsIf_load_mid (by rfl) 50 (.tmp 3) rfl g3 (0) rfl cp _ (fun w' hw' => F3.out w' hw') Tryz.underlying50 rfl (by rw [LP.out]; kernel_rfl)) hHeld ?_
        go_frame
        refine wpAnyH_ready (rs := [18]) (by kernel_rfl) (by simp) (held_cons rfl (fun K hK => ?_) AllReadyH.nil)
        rw [if_pos (by rfl)]
        go_simp
        refine (LL.out _).mono ?_
        rintro e v1 ⟨rfl, bb⟩
        have hv1 := hHeld.trans (bb.mono hHeld.size)
        clear bb hHeld
        go_wp2_with fail
        refine hK.out _ _ hv1 (fun hHeld => ?_)
        clear hK K hv1
        refine held_take (i := 19) (v := (.bool q)) rfl (by kernel_rfl) (by kernel_rfl) (by kernel_rfl) (fun _ _ _ h => h) (Or.inl ⟨by rfl, fun w' _ => by kernel_rfl⟩) hHeld ?_
        go_frame
        refine held_take (i := 20) (v := (.int .i64 (k : Int))) rfl (by kernel_rfl) (by kernel_rfl) (by kernel_rfl) (fun _ _ _ h => h) (Or.inl ⟨by rfl, fun w' _ => by kernel_rfl⟩) hHeld ?_
        go_frame
        refine held_take (i := 21) (v := (.bool q)) rfl (by kernel_rfl) (by kernel_rfl) (by kernel_rfl) (fun _ _ _ h => h) (Or.inl ⟨by rfl, fun w' _ => by kernel_rfl⟩) hHeld ?_
        go_frame
        refine wpAnyH_done (by kernel_rfl) ?_ _
        have BH := Lib.hid hHeld
        clear hHeld
        go_wp2_with fail
        go_ret2
        exact ⟨k, by rw [IS.out]; rfl, RK.out, B1.out.trans (BH.out.mono W1.out)⟩
      · have IS : Hid ((getC L p).isSome = false) := by
          show _ = _
          rw [getC_past HS.out RK.out (by rw [← N.out]; omega)]
          rfl
        have q0 : ¬ (k : Int) < (n : Int) := by omega
        go_upto_region 8 with fail
        refine wp_region_held_drew (S := (fun w' => Below w1.heap.size w1 w')) (by kernel_rfl) (Below.drew BB.out) (fun hHeld => ?_)
        generalize hwd : wr.drew = wd at  hHeld ⊢
        clear hwd
        refine held_take (i := 0) (v := (.int .i64 (k : Int))) rfl (by kernel_rfl) (by kernel_rfl) (by kernel_rfl) (fun _ _ _ h => h) (Or.inl ⟨by rfl, fun w' _ => by kernel_rfl⟩) hHeld ?_
        go_frame
        refine held_take (i := 1) (v := (.int .i64 (k : Int))) rfl (by kernel_rfl) (by kernel_rfl) (by kernel_rfl) (fun _ _ _ h => h) (Or.inl ⟨by rfl, fun w' _ => by kernel_rfl⟩) hHeld ?_
        go_frame
        refine held_take (i := 2) (v := (.pointer (some ⟨a, 0, none⟩))) rfl (by kernel_rfl) (by kernel_rfl) (by kernel_rfl) (fun _ _ _ h => h) (Or.inl ⟨by rfl, fun w' _ => by kernel_rfl⟩) hHeld ?_
        go_frame
        refine held_take (i := 3) (v := (.pointer (some ⟨a, 0, none⟩))) rfl (by kernel_rfl) (by kernel_rfl) (by kernel_rfl) (fun _ _ _ h => h) (Or.inl ⟨by rfl, fun w' _ => by kernel_rfl⟩) hHeld ?_
        go_frame
        refine held_take (i := 4) (v := (.pointer (some ⟨a, 0, none⟩))) rfl (by kernel_rfl) (by kernel_rfl) (by kernel_rfl) (fun _ _ _ h => h) (Or.inl ⟨by rfl, fun w' _ => by kernel_rfl⟩) hHeld ?_
        go_frame
        refine held_take (i := 5) (v := (.slice sp n cap)) rfl (by kernel_rfl) (by kernel_rfl) (by kernel_rfl) (fun _ _ _ h => h) (yieldsIf_load_one (by rfl) 22 (.tmp 38) rfl a (0) rfl _ _ (fun w' hw' => RC1.out w' hw') Tryz.underlying22 rfl) hHeld ?_
        go_frame
        refine held_take (i := 6) (v := (.int .i64 (n : Int))) rfl (by kernel_rfl) (by kernel_rfl) (by kernel_rfl) (fun _ _ _ h => h) (Or.inl ⟨by rfl, fun w' _ => by go_simp⟩) hHeld ?_
        go_frame
        refine held_take (i := 7) (v := (.bool false)) rfl (by kernel_rfl) (by kernel_rfl) (by kernel_rfl) (fun _ _ _ h => h) (Or.inl ⟨by rfl, fun w' _ => by go_simp⟩) hHeld ?_
        go_frame
        refine held_take (i := 8) (v := (.bool false)) rfl (by kernel_rfl) (by kernel_rfl) (by kernel_rfl) (fun _ _ _ h => h) (Or.inl ⟨by rfl, fun w' _ => by kernel_rfl⟩) hHeld ?_
        go_frame
        refine held_take (i := 9) (v := undef) rfl (by kernel_rfl) (by kernel_rfl) (by kernel_rfl) (fun _ _ _ h => h) (Or.inr ⟨by rfl, rfl⟩) hHeld ?_
        go_frame
        refine held_take (i := 10) (v := undef) rfl (by kernel_rfl) (by kernel_rfl) (by kernel_rfl) (fun _ _ _ h => h) (Or.inr ⟨by rfl, rfl⟩) hHeld ?_
        go_frame
        refine held_take (i := 11) (v := undef) rfl (by kernel_rfl) (by kernel_rfl) (by kernel_rfl) (fun _ _ _ h => h) (Or.inr ⟨by rfl, rfl⟩) hHeld ?_
        go_frame
        refine held_take (i := 12) (v := undef) rfl (by kernel_rfl) (by kernel_rfl) (by kernel_rfl) (fun _ _ _ h => h) (Or.inr ⟨by rfl, rfl⟩) hHeld ?_
        go_frame
        refine held_take (i := 13) (v := undef) rfl (by kernel_rfl) (by kernel_rfl) (by kernel_rfl) (fun _ _ _ h => h) (Or.inr ⟨by rfl, rfl⟩) hHeld ?_
        go_frame
        refine held_take (i := 14) (v := undef) rfl (by kernel_rfl) (by kernel_rfl) (by kernel_rfl) (fun _ _ _ h => h) (Or.inr ⟨by rfl, rfl⟩) hHeld ?_
        go_frame
        refine held_take (i := 15) (v := undef) rfl (by kernel_rfl) (by kernel_rfl) (by kernel_rfl) (fun _ _ _ h => h) (Or.inr ⟨by rfl, rfl⟩) hHeld ?_
        go_frame
        refine held_take (i := 16) (v := undef) rfl (by kernel_rfl) (by kernel_rfl) (by kernel_rfl) (fun _ _ _ h => h) (Or.inr ⟨by rfl, rfl⟩) hHeld ?_
        go_frame
        refine held_take (i := 17) (v := undef) rfl (by kernel_rfl) (by kernel_rfl) (by kernel_rfl) (fun _ _ _ h => h) (Or.inr ⟨by rfl, rfl⟩) hHeld ?_
        go_frame
        refine held_take (i := 18) (v := undef) rfl (by kernel_rfl) (by kernel_rfl) (by kernel_rfl) (fun _ _ _ h => h) (Or.inr ⟨by rfl, rfl⟩) hHeld ?_
        go_frame
        refine held_take (i := 19) (v := (.bool false)) rfl (by kernel_rfl) (by kernel_rfl) (by kernel_rfl) (fun _ _ _ h => h) (Or.inl ⟨by rfl, fun w' _ => by kernel_rfl⟩) hHeld ?_
        go_frame
        refine held_take (i := 20) (v := (.int .i64 (k : Int))) rfl (by kernel_rfl) (by kernel_rfl) (by kernel_rfl) (fun _ _ _ h => h) (Or.inl ⟨by rfl, fun w' _ => by kernel_rfl⟩) hHeld ?_
        go_frame
        refine held_take (i := 21) (v := (.bool false)) rfl (by kernel_rfl) (by kernel_rfl) (by kernel_rfl) (fun _ _ _ h => h) (Or.inl ⟨by rfl, fun w' _ => by kernel_rfl⟩) hHeld ?_
        go_frame
        refine wpAnyH_done (by kernel_rfl) ?_ _
        have BH := Lib.hid hHeld
        clear hHeld
        go_wp2_with fail
        go_ret2
        exact ⟨k, by rw [IS.out]; rfl, RK.out, B1.out.trans (BH.out.mono W1.out)⟩
end Go.Proofs.YtckkcpplanfmhaaGreatDoor.Sha

/-
  The statements' own copy of a row of coins: new memory; a row put behind an own one, whatever stands in either. Nothing that was there turns. Conditions: the coins lie where the slice says, at most 2^20 of them.
-/
namespace Go.Proofs.YtckkcpplanfmhaaGreatDoor.Sha
open Go Go.RowKit
theorem RwAt.one {k : Nat} {w : World} {g : Nat} {T : TypeId} {fr : Nat × Nat} {x : List Value} (h : w.heap[g]? = some (.cells x.toArray T fr)) (hx : x.length = k) : RwAt k w (.slice (some ⟨g, 0, none⟩) 1 1) [x] := by
  refine ⟨fun y hy => by rw [List.mem_singleton.1 hy]; exact hx, some ⟨g, 0, none⟩, 1, rfl, Nat.le_refl _, fun _ => ⟨g, 0, rfl, fun i y hy => ?_⟩⟩
  match i, hy with
  | 0, hy =>
    simp only [List.getElem?_cons_zero, Option.some.injEq] at hy
    subst hy
    rw [Nat.zero_mul, Nat.zero_add]
    exact range_of_box h
  | i + 1, hy => simp at hy
theorem RwOwn.lower {k : Nat} {T : TypeId} {base base' : Nat} {w : World} {v : Value} {L : List (List Value)} (h : RwOwn k T base w v L) (hb : base' ≤ base) : RwOwn k T base' w v L := ⟨own_base h.1 hb, h.2⟩
theorem sps_one (l : List TSp) : ∀ m ∈ l.map spL, ∀ u ∈ m, u.oneCell' = true := fun m hm => by
  obtain ⟨x, _, rfl⟩ := List.mem_map.1 hm
  exact spL_one x
def spsInv (l : List TSp) (w : World) (vs vi : Value) (wr : World) : Prop :=
  ∃ (k : Nat) (vb : Value), vb = vs ∧ vi = .int .i64 (k : Int) ∧ k ≤ l.length ∧ RwOwn 68 84 w.heap.size wr vb ((l.take k).map spL) ∧ Below w.heap.size w wr
set_option maxHeartbeats 2000000 in
set_option maxRecDepth 100000 in
theorem rspents_any (l : List TSp) (v : Value) (w : World) (hl : RwAt 68 w v (l.map spL)) (ho : ∀ x ∈ l, SpOk x) (hn : l.length ≤ 1048576) :
    Calls Tryz.prog 66 #[v] w fun e w' => ∃ v', e = .returned v' ∧ RwOwn 68 84 w.heap.size w' v' (l.map spL) ∧ Below w.heap.size w w' := by
  obtain ⟨i0, hi, hz0, hz1, hz2⟩ := info_parts info_spent
  obtain ⟨sp, cap, rfl⟩ := hl.shape
  rw [List.length_map] at hl ⊢
  obtain ⟨n, hnl⟩ : ∃ n, n = l.length := ⟨_, rfl⟩
  rw [← hnl] at hl hn ⊢
  have HN := Lib.hid hnl
  have OK := Lib.hid ho
  have HL := Lib.hid hl
  clear hl ho hnl
  go_enter Tryz.func66, Tryz.ntmps66
  go_wp2_with (at_make; refine wpList_make_own _ rfl _ _ 22 rfl w.heap.size 84 i0 (.agg (spL ⟨⟨List.replicate 32 0, 0⟩, mnZ⟩).toArray) 68 Tryz.underlying22 hi hz0 hz1 _ _ _ n rfl rfl rfl (by rw [hz2]; omega) (by unfold maxLen; omega) (Nat.le_refl _) ?_; intro w2 hown hgrow; have HO0 := Lib.hid hown; have HG0 := Lib.hid hgrow; clear hown hgrow; go_frame)
  have HB0 := Lib.hid ((Below.refl _ _).grown HG0.out (Nat.le_refl _) (fun k hk => by cases hk))
  have HST : Hid (RwOwn 68 84 w.heap.size w2 (.slice (some ⟨w.heap.size, 0, none⟩) 0 n) ((l.take 0).map spL)) := ⟨HO0.out, fun x hx => by simp at hx⟩
  clear HO0 HG0
  go_loopw [3, 4] (fun vs vi wr => spsInv l w vs vi wr) (fun _ vi _ => n - (intOf vi).toNat)
  case atStart => exact ⟨0, _, rfl, rfl, Nat.zero_le _, HST.out, HB0.out⟩
  case round =>
    clear HST HB0
    obtain ⟨k, vb, rfl, rfl, hk, ho, hb⟩ := hrel
    have HO := Lib.hid ho
    have B := Lib.hid hb
    clear ho hb
    rw [← HN.out] at hk
    by_cases hlt : k < n
    · obtain ⟨b, o, rfl, hg⟩ := (HL.out.below B.out).get (by omega)
      have hkl : k < l.length := by rw [← HN.out]; exact hlt
      obtain ⟨x, hx⟩ : ∃ x, l[k]? = some x := ⟨_, List.getElem?_eq_getElem hkl⟩
      have ox := OK.out x (List.mem_of_getElem? hx)
      have HX := Lib.hid (hg k (spL x) (by rw [List.getElem?_map, hx]; rfl))
      have LX : Hid ((spL x).length = 68) := spL_length ox
      have LO : Hid (∀ v ∈ spL x, v.oneCell' = true) := spL_one x
      have HT : Hid ((l.take (k + 1)).map spL = (l.take k).map spL ++ [spL x]) := by
        show _ = _
        rw [List.take_succ_eq_append_getElem hkl, (List.getElem?_eq_some_iff.1 hx).2, List.map_append, List.map_singleton]
      have HTL : Hid (((l.take k).map spL).length ≤ 1048576) := by show _ ≤ _; rw [List.length_map, List.length_take]; omega
      have p0 : 0 ≤ (k : Int) := by omega
      have q0 : (k : Int) < (n : Int) := by omega
      clear hg hx ox hkl
      go_wp2_with (first | ((with_reducible show wpList _ _ _ _ _ _); first | (refine wpList_load_mid rfl 84 (.tmp 17) rfl b (o + k * 68) rfl (spL x) _ HX.out Tryz.underlying84 rfl (by rw [LX.out]; kernel_rfl) ?_; go_frame) | (refine wpList_slice_one rfl 22 84 (.tmp 18) rfl (spL x) rfl Tryz.underlying22 i0 _ hi hz0 (by rw [hz1, LX.out]) (by rw [LX.out]; omega) (by rw [LX.out]; omega) ?_; have nf := heap_alloc_new wr (.cells (spL x).toArray 84 (0, 0)); have bb := (Below.refl wr.heap.size wr).alloc (Nat.le_refl _) (.cells (spL x).toArray 84 (0, 0)); obtain ⟨gn, hgn⟩ : ∃ gn, gn = wr.heap.size := ⟨_, rfl⟩; generalize hw2 : World.alloc _ _ = w2; have e2 : wr.alloc (.cells (spL x).toArray 84 (0, 0)) = w2 := hw2; rw [e2] at nf bb; rw [← hgn] at nf ⊢; have NF := Lib.hid nf; have HO2 := Lib.hid (HO.out.keep bb); have B2 := Lib.hid (B.out.trans (bb.mono B.out.size)); clear nf bb hw2 e2 hgn; go_frame)) | (at_builtin; refine wpList_append_own_at _ rfl _ _ 22 rfl w.heap.size 84 i0 (.agg (spL ⟨⟨List.replicate 32 0, 0⟩, mnZ⟩).toArray) 68 96 Tryz.underlying22 hi hz0 hz1 hz2 (by kernel_rfl) (by decide) vb _ ((l.take k).map spL).flatten rfl HO2.out.1 ⟨gn, 0, none⟩ 1 1 (spL x) rfl (by rw [LX.out]) (fun j u hj => by rw [Addr.add_mid]; exact range_of_box NF.out j u hj) LO.out (by have := HTL.out; unfold maxLen; omega) (by have := HTL.out; omega) B2.out.size ?_; intro v3 w3 q1 q2 _ q4; have HO3 : Hid (RwOwn 68 84 w.heap.size w3 v3 ((l.take k).map spL ++ [spL x])) := RwOwn.push HO2.out.2 LX.out q1; have B3 := Lib.hid (own_grown B2.out (Nat.le_refl _) B2.out.size HO2.out.1 q2); clear q1 q2 q4; go_frame))
      go_roundw
      case rel => exact ⟨k + 1, _, rfl, by go_num, by rw [← HN.out]; omega, by rw [HT.out]; exact HO3.out, B3.out⟩
      case measure => simp [intOf]; omega
    · have HF : Hid (RwOwn 68 84 w.heap.size wr vb (l.map spL)) := by
        have h := HO.out
        rw [List.take_of_length_le (by rw [← HN.out]; omega)] at h
        exact h
      have hge : ¬ (k : Int) < (n : Int) := by omega
      clear HO
      go_wp2_with fail
      go_ret
      exact ⟨_, rfl, HF.out, B.out⟩
end Go.Proofs.YtckkcpplanfmhaaGreatDoor.Sha

/-
  Rows of 32-bit numbers; the statements' own copy of one: new memory. Nothing that was there turns. Condition: at most 2^20 numbers.
-/
namespace Go.Proofs.YtckkcpplanfmhaaGreatDoor.Sha
open Go Go.RowKit
def u32C (x : Nat) : List Value := [.int .u32 (x : Int)]
theorem info_u32 : (Tryz.prog.info? 23).map (fun i => (i.zero, i.size, i.bytes)) = some (some (.int .u32 0), 1, 4) := by kernel_rfl
theorem u32_cell {w : World} {b o i x : Nat} (h : w.rangeAt b (o + i * 1) (u32C x)) : w.cell? ⟨b, o + i, none⟩ = some (.int .u32 (x : Int)) := by
  have := h 0 _ rfl
  simpa using this
theorem u32_at {w : World} {v : Value} {l : List Nat} (h : RwAt 1 w v (l.map u32C)) : U32At w v l := by
  obtain ⟨sp, cap, rfl⟩ := h.shape
  rw [List.length_map] at h ⊢
  refine ⟨sp, cap, rfl, fun h0 => ⟨h.len.2, ?_⟩⟩
  obtain ⟨b, o, rfl, hg⟩ := h.get h0
  exact ⟨b, o, rfl, fun i x hx => u32_cell (hg i (u32C x) (by rw [List.getElem?_map, hx]; rfl))⟩
end Go.Proofs.YtckkcpplanfmhaaGreatDoor.Sha

/-
  What may be read first in a region that draws its order and whose last operations (Z) write into what was read: the condition on the world need not hold behind those. No conditions beyond those that each states.
-/
namespace Go.Proofs.YtckkcpplanfmhaaGreatDoor.Sha
open Go Go.RowKit
section
variable {P : Program} {md : Region.Mode} {ops : Array Oper} {Q : Exit → Act → World → Prop} {S T : World → Prop} {Z : List Nat}
/-- None of Z has come up. -/
def endOpen (Z : List Nat) (done : Array Bool) : Bool := Z.all fun z => !done.getD z true
/-- Any order; the condition behind each operation while none of Z has come up. -/
def EndAny (P : Program) (md : Region.Mode) (ops : Array Oper) (Q : Exit → Act → World → Prop) (S : World → Prop) (Z : List Nat) : Nat → Array Bool → Act → World → Prop
  | 0, done, a, w => Region.ready md ops done = [] ∧ Q .normal a w
  | f + 1, done, a, w => (Region.ready md ops done = [] → Q .normal a w) ∧ ∀ j ∈ Region.ready md ops done, wpOp P ops Q j (fun b u => (endOpen Z (done.setIfInBounds j true) = true → S u) ∧ EndAny P md ops Q S Z f (done.setIfInBounds j true) b u) a w
theorem EndAny.any : ∀ (f : Nat) (done : Array Bool) (a : Act) (w : World), EndAny P md ops Q S Z f done a w → wpAny P md ops Q f done a w
  | 0, _, _, _, h => h
  | f + 1, _, _, _, h => ⟨h.1, fun j hj => wpOp_mono (fun b u hb => EndAny.any f _ b u hb.2) (h.2 j hj)⟩
/-- j waits for i, at once or through others. -/
def endAnc (md : Region.Mode) (ops : Array Oper) (i : Nat) : Nat → Nat → Bool
  | 0, _ => false
  | f + 1, j => match ops[j]? with | none => false | some o => o.after.any fun e => Region.binds md e && (e.on == i || endAnc md ops i f e.on)
def endWaits (md : Region.Mode) (ops : Array Oper) (Z : List Nat) (i : Nat) : Bool := Z.all fun z => endAnc md ops i ops.size z
/-- Who has come up has all come up that it waits for. -/
def EndClosed (md : Region.Mode) (ops : Array Oper) (done : Array Bool) : Prop := ∀ (j : Nat) (o : Oper), ops[j]? = some o → done.getD j true = true → ∀ e ∈ o.after, Region.binds md e = true → done.getD e.on false = true
def endClosed (md : Region.Mode) (ops : Array Oper) (done : Array Bool) : Bool := (List.range ops.size).all fun j => match ops[j]? with | none => true | some o => !done.getD j true || o.after.all fun e => !Region.binds md e || done.getD e.on false
theorem endClosed_spec {done : Array Bool} (h : endClosed md ops done = true) : EndClosed md ops done := by
  intro j o hj hd e he hb
  have h1 := List.all_eq_true.1 h j (List.mem_range.2 (Array.getElem?_eq_some_iff.1 hj).1)
  rw [hj] at h1
  simp only [hd, Bool.not_true, Bool.false_or] at h1
  obtain ⟨x, hx, rfl⟩ := Array.getElem_of_mem he
  have h2 := Array.all_eq_true.1 h1 x hx
  rw [hb, Bool.not_true, Bool.false_or] at h2
  exact h2
theorem getD_both {done : Array Bool} {i : Nat} (h0 : done.getD i true = false) (h1 : done.getD i false = true) : False := by
  by_cases hlt : i < done.size
  · simp only [Array.getD, hlt, dif_pos] at h0 h1
    rw [h0] at h1
    cases h1
  · simp only [Array.getD, hlt, dif_neg, not_false_eq_true] at h1
    cases h1
theorem getD_up {done : Array Bool} {i : Nat} (h : done.getD i false = true) : done.getD i true = true := by
  by_cases hlt : i < done.size
  · simp only [Array.getD, hlt, dif_pos] at h ⊢
    exact h
  · simp [Array.getD, hlt]
theorem endAnc_done {done : Array Bool} {i : Nat} (hc : EndClosed md ops done) : ∀ (f j : Nat) (o : Oper), ops[j]? = some o → (∀ e ∈ o.after, Region.binds md e = true → done.getD e.on false = true) → endAnc md ops i f j = true → done.getD i false = true
  | 0, _, _, _, _, h => by cases h
  | f + 1, j, o, hj, ha, h => by
    rw [endAnc, hj] at h
    have h : o.after.any (fun e => Region.binds md e && (e.on == i || endAnc md ops i f e.on)) = true := h
    obtain ⟨x, hx, h2⟩ := Array.any_eq_true.1 h
    rw [Bool.and_eq_true, Bool.or_eq_true, beq_iff_eq] at h2
    have hd := ha _ (Array.getElem_mem hx) h2.1
    rcases h2.2 with h3 | h3
    · rw [← h3]
      exact hd
    · cases hk : ops[(o.after[x]).on]? with
      | none =>
        cases f with
        | zero => cases h3
        | succ f => rw [endAnc, hk] at h3; cases h3
      | some ok => exact endAnc_done hc f _ ok hk (hc _ ok hk (getD_up hd)) h3
theorem endOpen_back {done : Array Bool} {i : Nat} (h : endOpen Z (done.setIfInBounds i true) = true) : endOpen Z done = true := by
  rw [endOpen, List.all_eq_true] at h ⊢
  intro z hz
  have h1 := h z hz
  by_cases hiz : i = z
  · subst hiz
    rw [Bool.not_eq_true'] at h1
    by_cases hlt : i < done.size
    · simp [Array.getD, hlt] at h1
    · simp [Array.getD, hlt] at h1
  · rwa [getD_set_ne true hiz] at h1
theorem endOpen_other {done : Array Bool} {i : Nat} (hi : i ∉ Z) (h : endOpen Z done = true) : endOpen Z (done.setIfInBounds i true) = true := by
  rw [endOpen, List.all_eq_true] at h ⊢
  intro z hz
  have h1 := h z hz
  rw [getD_set_ne true (fun e => hi (by rw [e]; exact hz))]
  exact h1
theorem endOpen_of {done : Array Bool} {i j : Nat} {oj : Oper} (hc : EndClosed md ops done) (hz : endWaits md ops Z i = true) (h0 : done.getD i true = false) (hoj : ops[j]? = some oj) (hall : ∀ e ∈ oj.after, Region.binds md e = true → done.getD e.on false = true) : endOpen Z (done.setIfInBounds j true) = true := by
  rw [endOpen, List.all_eq_true]
  intro z hm
  have h1 := List.all_eq_true.1 hz z hm
  have hjz : j ≠ z := fun e => by
    rw [← e] at h1
    exact getD_both h0 (endAnc_done hc _ j oj hoj hall h1)
  rw [getD_set_ne true hjz, Bool.not_eq_true']
  cases hd : done.getD z true with
  | false => rfl
  | true =>
    cases hk : ops[z]? with
    | none =>
      cases hs : ops.size with
      | zero => rw [hs] at h1; cases h1
      | succ f => rw [hs, endAnc, hk] at h1; cases h1
    | some ok => exact (getD_both h0 (endAnc_done hc _ z ok hk (hc z ok hk hd) h1)).elim
theorem EndAny.first {i : Nat} {oi : Oper} {v : Value} (hi : ops[i]? = some oi) (hiz : i ∉ Z) (hz : (∀ w, T w) ∨ (endWaits md ops Z i = true ∧ ∀ w, S w → T w)) (hsel : ∀ (j : Nat) (o : Oper) cs b, ops[j]? = some o → o.op ≠ .select cs b) (hQ : ∀ c a w, Q (.panic c) (a.put oi.dst v) w → Q (.panic c) a w) :
    ∀ (f : Nat) (done : Array Bool) (a : Act) (w : World), EndClosed md ops done → (∀ j oj, ops[j]? = some oj → j ≠ i → done.getD j true = false → (∀ e ∈ oj.after, Region.binds md e = true → e.on ≠ i) → oi.apart ops oj = true) →
      i ∈ Region.ready md ops done → YieldsIf P ops T oi v a → T w → (endOpen Z done = true → S w) → EndAny P md ops Q S Z f (done.setIfInBounds i true) (a.put oi.dst v) w → EndAny P md ops Q S Z (f + 1) done a w := by
  have lone : ∀ {f : Nat} {done : Array Bool} {a : Act} {w : World}, YieldsIf P ops T oi v a → T w → (endOpen Z done = true → S w) → EndAny P md ops Q S Z f (done.setIfInBounds i true) (a.put oi.dst v) w →
      wpOp P ops Q i (fun b u => (endOpen Z (done.setIfInBounds i true) = true → S u) ∧ EndAny P md ops Q S Z f (done.setIfInBounds i true) b u) a w := fun hy hw hs h => hy.wpOp hi hw ⟨fun ho => hs (endOpen_back ho), h⟩
  intro f
  induction f with
  | zero =>
    intro done a w _ _ hr hy hw hs h
    constructor
    · intro h0
      exact absurd hr (by rw [h0]; simp)
    · intro j hj
      by_cases hji : j = i
      · rw [hji]
        exact lone hy hw hs h
      · have h2 := ready_mono hj hji
        rw [h.1] at h2
        exact absurd h2 (by simp)
  | succ f ih =>
    intro done a w hcl hfree hr hy hw hs h
    constructor
    · intro h0
      exact absurd hr (by rw [h0]; simp)
    · intro j hj
      by_cases hji : j = i
      · rw [hji]
        exact lone hy hw hs h
      · obtain ⟨un, oj, hoj, hall⟩ := mem_ready.1 hj
        have h0 := (mem_ready.1 hr).1
        -- i has not come up yet: who comes up now does not wait for it
        have alone : ∀ e ∈ oj.after, Region.binds md e = true → e.on ≠ i := fun e he hb hei => by
          have h1 := hall e he hb
          rw [hei] at h1
          exact getD_both h0 h1
        have hk := wpOp_putIf hoj (hfree j oj hoj hji un alone) (fun cs b => hsel i oi cs b hi) (fun cs b => hsel j oj cs b hoj) hQ hy (h.2 j (ready_mono hj hji))
        refine wpOp_mono (fun b u hb => ?_) hk
        have hcl' : EndClosed md ops (done.setIfInBounds j true) := by
          intro k ok hok hd e he hb2
          by_cases hjk : j = k
          · rw [← hjk, hoj] at hok
            cases hok
            exact getD_set_true (hall e he hb2)
          · rw [getD_set_ne true hjk] at hd
            exact getD_set_true (hcl k ok hok hd e he hb2)
        have hs2 : endOpen Z (done.setIfInBounds j true) = true → S u := fun ho => hb.2.1 (by
          rw [Array.setIfInBounds_comm _ _ (fun e => hji e.symm)]
          exact endOpen_other hiz ho)
        have ht : T u := by
          rcases hz with hz | ⟨hz, hst⟩
          · exact hz u
          · exact hst u (hs2 (endOpen_of hcl hz h0 hoj hall))
        refine ⟨hs2, ih _ b u hcl' (fun k ok hok hki hun hno => hfree k ok hok hki ?_ hno) (ready_mono hr (fun e => hji e.symm)) hb.1 ht hs2 ?_⟩
        · by_cases hjk : j = k
          · rw [← hjk]
            exact un
          · rw [getD_set_ne true hjk] at hun
            exact hun
        · have := hb.2.2
          rwa [Array.setIfInBounds_comm _ _ hji]
end
section
variable {P : Program} {md : Region.Mode} {l : List Oper} {Q : Exit → Act → World → Prop} {S : World → Prop} {Z : List Nat}
/-- What every world of the condition yields, and all of Z wait for, is taken first. -/
theorem end_take {i : Nat} {oi : Oper} {rest : List Oper} {v : Value} {f : Nat} {done : Array Bool} {a : Act} {w : World} (hd : l.drop i = oi :: rest) (hz : (endWaits md l.toArray Z i && !Z.contains i && endClosed md l.toArray done) = true)
    (hs : Region.noSelect l.toArray = true) (hf : Region.free md l.toArray done i = true) (hr : (Region.ready md l.toArray done).contains i = true)
    (hQ : ∀ c a w, Q (.panic c) (a.put oi.dst v) w → Q (.panic c) a w) (hy : YieldsIf P l.toArray S oi v a) (hS : S w)
    (h : EndAny P md l.toArray Q S Z f (done.setIfInBounds i true) (a.put oi.dst v) w) : EndAny P md l.toArray Q S Z (f + 1) done a w := by
  have hi : l.toArray[i]? = some oi := by rw [List.getElem?_toArray]; exact get_of_drop hd
  rw [Bool.and_eq_true, Bool.and_eq_true, Bool.not_eq_true'] at hz
  exact EndAny.first (T := S) hi (fun hm => by have := hz.1.2; simp [hm] at this) (.inr ⟨hz.1.1, fun _ h => h⟩) (Region.noSelect_spec hs) hQ f done a w (endClosed_spec hz.2) (Region.free_spec hi hf) (by simpa using hr) hy hS (fun _ => hS) h
/-- One of Z comes up, or one behind: nothing is asked of the world any more. -/
theorem end_last {f i : Nat} {done : Array Bool} {a : Act} {w : World} {o : Oper} {rest : List Oper} (hr : Region.ready md l.toArray done = [i]) (ho : endOpen Z (done.setIfInBounds i true) = false) (hd : l.drop i = o :: rest)
    (h : ∀ K' : Act → World → Prop, Shut (∀ a w, EndAny P md l.toArray Q S Z f (done.setIfInBounds i true) a w → K' a w) → if Region.wanted o (yielded l.toArray a.tmps) = true then Oper.wp P o a w K' Q else K' (a.put o.dst undef) w) :
    EndAny P md l.toArray Q S Z (f + 1) done a w := by
  refine ⟨fun h0 => (by rw [hr] at h0; cases h0), fun j hj => ?_⟩
  rw [hr] at hj
  obtain rfl := List.mem_singleton.1 hj
  exact wpOp_step (by rw [List.getElem?_toArray]; exact get_of_drop hd) (fun K' hK => h K' (fun a w hW => hK a w ⟨fun h => absurd h (by rw [ho]; decide), hW⟩))
theorem end_done {done : Array Bool} {a : Act} {w : World} (hr : Region.ready md l.toArray done = []) (h : Q .normal a w) : ∀ f, EndAny P md l.toArray Q S Z f done a w
  | 0 => ⟨hr, h⟩
  | _ + 1 => ⟨fun _ => h, fun j hj => by rw [hr] at hj; cases hj⟩
/-- The region's head. -/
theorem wp_region_end (S : World → Prop) (Z : List Nat) {id : Nat} {a : Act} {w : World} (hm : P.follows .mixedOrders = true) (hS : S w.drew) (h : S w.drew → EndAny P .any l.toArray Q S Z l.toArray.size (Array.replicate l.toArray.size false) a w.drew) :
    (Code.region id l.toArray true).wp P Q a w := wp_region_any hm (EndAny.any _ _ _ _ (h hS))
end
end Go.Proofs.YtckkcpplanfmhaaGreatDoor.Sha

/-
  Plain mathematics of a block's header: its bytes; read out of bytes it is what was written, cut off it ends too early, longer it has another shape; any 80 bytes are one header's. No conditions beyond those that each states.
-/
namespace Go.Proofs.YtckkcpplanfmhaaGreatDoor.Sha
open Go Go.RowKit
structure THd where
  ver : Nat
  prev : List UInt8
  root : List UInt8
  time : Nat
  work : Nat
  nonce : Nat
def HdOk (h : THd) : Prop := h.ver ≤ 4294967295 ∧ h.prev.length = 32 ∧ h.root.length = 32 ∧ h.time ≤ 4294967295 ∧ h.work ≤ 4294967295 ∧ h.nonce ≤ 4294967295
/-- A header's bytes. -/
def hdB (h : THd) : List UInt8 := leB h.ver 4 ++ h.prev ++ h.root ++ leB h.time 4 ++ leB h.work 4 ++ leB h.nonce 4
theorem hdB_length {h : THd} (hh : HdOk h) : (hdB h).length = 80 := by
  simp only [hdB, List.length_append, leB_length, hh.2.1, hh.2.2.1]
end Go.Proofs.YtckkcpplanfmhaaGreatDoor.Sha

/-
  What package tx is shown to answer of bytes as a transaction, as a hypothesis; what is read is small. No conditions.
-/
namespace Go.Proofs.YtckkcpplanfmhaaGreatDoor.Sha
open Go Go.RowKit
/-- What bytes are as a transaction. -/
structure ReadIs (bs : List UInt8) (t : TTx) (c : Nat) : Prop where
  eq : readTx bs = (t, c)
theorem tx_one {w : World} {t : TTx} {iv ov : Value} (h1 : InsAt w iv t.ins) (h2 : OutsAt w ov t.outs) : (txL t iv ov).toArray.all (·.oneCell') = true := by
  obtain ⟨_, _, rfl, _⟩ := h1
  obtain ⟨_, _, rfl, _⟩ := h2
  rw [Array.all_eq_true_iff_forall_mem]
  intro x hx
  simp [txL] at hx
  rcases hx with rfl | rfl | rfl | rfl <;> rfl
end Go.Proofs.YtckkcpplanfmhaaGreatDoor.Sha
