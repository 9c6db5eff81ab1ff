/-
  Texts of this proof joined into one file: HdBytes, HdStore, HdCheck, HdWorkWalk, ErrAll, HdTake, TxReadW, HdRead. What each holds, and under which conditions, its own first sentence tells.
-/
import Derived.Stop.LaidErr
import Derived.Maps.AppendAt
import Derived.Laws.ResultCell
import Derived.Test.YtlfpjfhpleociaaDoorMg04
import Derived.Test.YtlfpjfhpleociaaDoorMg01
import Derived.Test.YtlfpjfhpleociaaDoorMg02
import Derived.Test.YtlfpjfhpleociaaDoorRows
import Derived.Test.YtlfpjfhpleociaaDoorMg03
/-
  Package head writes a header down, in new memory. Nothing that was there turns. Condition: digests of 32 bytes, numbers of 32 bits.
-/
namespace Go.Proofs.YtlfpjfhpleociaaDoor.Sha
open Go Go.RowKit
set_option maxHeartbeats 1000000 in
set_option maxRecDepth 100000 in
theorem hdbytes_any (h : THd) (hh : HdOk h) (w : World) :
    Calls Tryd.prog 7 #[.agg (hdL h).toArray] w fun e w' => ∃ v, e = .returned v ∧ CopyB w w' v (hdB h) := by
  obtain ⟨i0, hi, hz0, hz1, hz2⟩ := info_parts info_u8
  have HH := Lib.hid hh
  obtain ⟨cs, hcs⟩ : ∃ cs, cs = hdL h := ⟨_, rfl⟩
  rw [← hcs]
  have CS := Lib.hid hcs
  obtain ⟨vv, hvv⟩ : ∃ n, n = h.ver := ⟨_, rfl⟩
  obtain ⟨vt, hvt⟩ : ∃ n, n = h.time := ⟨_, rfl⟩
  obtain ⟨vw, hvw⟩ : ∃ n, n = h.work := ⟨_, rfl⟩
  obtain ⟨vn, hvn⟩ : ∃ n, n = h.nonce := ⟨_, rfl⟩
  have BV : Hid (vv ≤ 4294967295) := by show _ ≤ _; rw [hvv]; exact hh.1
  have BT : Hid (vt ≤ 4294967295) := by show _ ≤ _; rw [hvt]; exact hh.2.2.2.1
  have BW : Hid (vw ≤ 4294967295) := by show _ ≤ _; rw [hvw]; exact hh.2.2.2.2.1
  have BN : Hid (vn ≤ 4294967295) := by show _ ≤ _; rw [hvn]; exact hh.2.2.2.2.2
  have EE : Hid (hdB h = leB vv 4 ++ h.prev ++ h.root ++ leB vt 4 ++ leB vw 4 ++ leB vn 4) := by show _ = _; rw [hvv, hvt, hvw, hvn]; rfl
  have LP : Hid (h.prev.length = 32) := hh.2.1
  have LR : Hid (h.root.length = 32) := hh.2.2.1
  have VV := Lib.hid hvv
  have VT := Lib.hid hvt
  have VW := Lib.hid hvw
  have VN := Lib.hid hvn
  clear hcs hh hvv hvt hvw hvn
  go_enter Tryd.func7, Tryd.ntmps7
  go_upto_region 1 with fail
  have F0 := heap_alloc_new w (.cells cs.toArray 26 (0, 0))
  have B0 := Lib.hid ((Below.refl w.heap.size w).alloc (Nat.le_refl _) (.cells cs.toArray 26 (0, 0)))
  generalize hw1 : World.alloc _ _ = w1
  have e1 : w.alloc (.cells cs.toArray 26 (0, 0)) = w1 := hw1
  rw [e1] at F0 B0
  rw [CS.out] at F0
  have K : HdBox w1 w.heap.size h := ⟨F0⟩
  have K := Lib.hid K
  clear hw1 e1 F0
  have C0 : Hid (∀ w', Below w1.heap.size w1 w' → w'.cell? ⟨w.heap.size, 0, none⟩ = some (.int .u32 (vv : Int))) := fun w' hw' => by rw [VV.out]; exact ((K.out.below hw').cells HH.out).1
  have C65 : Hid (∀ w', Below w1.heap.size w1 w' → w'.cell? ⟨w.heap.size, 65, none⟩ = some (.int .u32 (vt : Int))) := fun w' hw' => by rw [VT.out]; exact ((K.out.below hw').cells HH.out).2.1
  have C66 : Hid (∀ w', Below w1.heap.size w1 w' → w'.cell? ⟨w.heap.size, 66, none⟩ = some (.int .u32 (vw : Int))) := fun w' hw' => by rw [VW.out]; exact ((K.out.below hw').cells HH.out).2.2.1
  have C67 : Hid (∀ w', Below w1.heap.size w1 w' → w'.cell? ⟨w.heap.size, 67, none⟩ = some (.int .u32 (vn : Int))) := fun w' hw' => by rw [VN.out]; exact ((K.out.below hw').cells HH.out).2.2.2
  have SP : Hid (∀ w', Below w1.heap.size w1 w' → SrcB w' (.slice (some ⟨w.heap.size, 1, none⟩) 32 32) h.prev) := fun w' hw' => src_range (K.out.below hw').prev LP.out.symm (by omega) (Nat.le_refl _)
  have SR : Hid (∀ w', Below w1.heap.size w1 w' → SrcB w' (.slice (some ⟨w.heap.size, 33, none⟩) 32 32) h.root) := fun w' hw' => src_range ((K.out.below hw').root HH.out) LR.out.symm (by omega) (Nat.le_refl _)
  go_upto_region 2 with (at_make; refine wpList_make_own _ rfl _ _ 28 rfl w1.heap.size 5 i0 (.int .u8 0) 1 Tryd.underlying28 hi hz0 hz1 _ _ _ 80 rfl rfl (by omega) (by rw [hz2]; omega) (by unfold maxLen; omega) (Nat.le_refl _) ?_; intro w3 hown hgrow; have C3 : Hid (CopyB w1 w3 (.slice (some ⟨w1.heap.size, 0, none⟩) 0 80) []) := (⟨hown, below_made hgrow⟩ : CopyB w1 w3 (.slice (some ⟨w1.heap.size, 0, none⟩) 0 80) []); clear hown hgrow; go_frame)
  have c0 := C0.out w3 C3.out.2
  go_wp2_with fail
  refine (four_new [] _ vv w3 (nil_src _) (by simp) BV.out).mono ?_
  rintro e w4 ⟨s4, n4, c4, rfl, hn4, hc4⟩
  have P4 := Lib.hid hc4
  have C4 := Lib.hid (C3.out.keep hc4.2)
  clear hn4 hc4 c0 C3
  rw [List.nil_append] at P4
  go_upto_region 3 with ((with_reducible show wpList _ _ _ _ _ _); refine wpList_append_g _ rfl (.tmp 5) (.tmp 8) 28 rfl w1.heap.size 5 i0 Tryd.underlying28 hi hz0 hz1 hz2 _ _ _ (by rfl) C4.out.1 (.slice s4 n4 c4) (leB vv 4) (by rfl) P4.out.src (by simp only [leB_length, List.length_nil]; omega) C4.out.2.size ?_; intro v5 w5 a1 a2 a3; have C5 := Lib.hid (C4.out.app a1 a2); clear a1 a2 a3; go_frame)
  obtain ⟨A5, hA5⟩ : ∃ A, A = leB vv 4 := ⟨_, rfl⟩
  rw [List.nil_append, ← hA5] at C5
  have LA5 : Hid (A5.length = 4) := by show _ = _; rw [hA5, leB_length]
  have HA5 := Lib.hid hA5
  clear hA5 P4 C4
  go_upto_region 4 with ((with_reducible show wpList _ _ _ _ _ _); refine wpList_append_g _ rfl (.tmp 10) (.tmp 12) 28 rfl w1.heap.size 5 i0 Tryd.underlying28 hi hz0 hz1 hz2 _ _ _ (by rfl) C5.out.1 (.slice (some ⟨w.heap.size, 1, none⟩) 32 32) h.prev (by rfl) (SP.out _ C5.out.2) (by rw [LA5.out, LP.out]; omega) C5.out.2.size ?_; intro v6 w6 a1 a2 a3; have C6 := Lib.hid (C5.out.app a1 a2); clear a1 a2 a3; go_frame)
  have LA6 : Hid ((A5 ++ h.prev).length = 36) := by show _ = _; rw [List.length_append, LA5.out, LP.out]
  clear C5 LA5
  go_upto_region 5 with ((with_reducible show wpList _ _ _ _ _ _); refine wpList_append_g _ rfl (.tmp 14) (.tmp 16) 28 rfl w1.heap.size 5 i0 Tryd.underlying28 hi hz0 hz1 hz2 _ _ _ (by rfl) C6.out.1 (.slice (some ⟨w.heap.size, 33, none⟩) 32 32) h.root (by rfl) (SR.out _ C6.out.2) (by rw [LA6.out, LR.out]; omega) C6.out.2.size ?_; intro v7 w7 a1 a2 a3; have C7 := Lib.hid (C6.out.app a1 a2); clear a1 a2 a3; go_frame)
  have LA7 : Hid ((A5 ++ h.prev ++ h.root).length = 68) := by show _ = _; rw [List.length_append, LA6.out, LR.out]
  clear C6 LA6
  have c65 := C65.out w7 C7.out.2
  go_wp2_with fail
  refine (four_new [] _ vt w7 (nil_src _) (by simp) BT.out).mono ?_
  rintro e w8 ⟨s8, n8, c8, rfl, hn8, hc8⟩
  have P8 := Lib.hid hc8
  have C8 := Lib.hid (C7.out.keep hc8.2)
  clear hn8 hc8 c65 C7
  rw [List.nil_append] at P8
  go_upto_region 6 with ((with_reducible show wpList _ _ _ _ _ _); refine wpList_append_g _ rfl (.tmp 18) (.tmp 21) 28 rfl w1.heap.size 5 i0 Tryd.underlying28 hi hz0 hz1 hz2 _ _ _ (by rfl) C8.out.1 (.slice s8 n8 c8) (leB vt 4) (by rfl) P8.out.src (by rw [LA7.out, leB_length]; omega) C8.out.2.size ?_; intro v9 w9 a1 a2 a3; have C9 := Lib.hid (C8.out.app a1 a2); clear a1 a2 a3; go_frame)
  have LA9 : Hid ((A5 ++ h.prev ++ h.root ++ leB vt 4).length = 72) := by show _ = _; rw [List.length_append, LA7.out, leB_length]
  clear P8 C8 LA7
  have c66 := C66.out w9 C9.out.2
  go_wp2_with fail
  refine (four_new [] _ vw w9 (nil_src _) (by simp) BW.out).mono ?_
  rintro e w10 ⟨s10, n10, c10, rfl, hn10, hc10⟩
  have P10 := Lib.hid hc10
  have C10 := Lib.hid (C9.out.keep hc10.2)
  clear hn10 hc10 c66 C9
  rw [List.nil_append] at P10
  go_upto_region 7 with ((with_reducible show wpList _ _ _ _ _ _); refine wpList_append_g _ rfl (.tmp 23) (.tmp 26) 28 rfl w1.heap.size 5 i0 Tryd.underlying28 hi hz0 hz1 hz2 _ _ _ (by rfl) C10.out.1 (.slice s10 n10 c10) (leB vw 4) (by rfl) P10.out.src (by rw [LA9.out, leB_length]; omega) C10.out.2.size ?_; intro v11 w11 a1 a2 a3; have C11 := Lib.hid (C10.out.app a1 a2); clear a1 a2 a3; go_frame)
  have LA11 : Hid ((A5 ++ h.prev ++ h.root ++ leB vt 4 ++ leB vw 4).length = 76) := by show _ = _; rw [List.length_append, LA9.out, leB_length]
  clear P10 C10 LA9
  have c67 := C67.out w11 C11.out.2
  go_wp2_with fail
  refine (four_new [] _ vn w11 (nil_src _) (by simp) BN.out).mono ?_
  rintro e w12 ⟨s12, n12, c12, rfl, hn12, hc12⟩
  have P12 := Lib.hid hc12
  have C12 := Lib.hid (C11.out.keep hc12.2)
  clear hn12 hc12 c67 C11
  rw [List.nil_append] at P12
  go_wp2_with ((with_reducible show wpList _ _ _ _ _ _); refine wpList_append_g _ rfl (.tmp 28) (.tmp 31) 28 rfl w1.heap.size 5 i0 Tryd.underlying28 hi hz0 hz1 hz2 _ _ _ (by rfl) C12.out.1 (.slice s12 n12 c12) (leB vn 4) (by rfl) P12.out.src (by rw [LA11.out, leB_length]; omega) C12.out.2.size ?_; intro v13 w13 a1 a2 a3; have C13 := Lib.hid (C12.out.app a1 a2); clear a1 a2 a3; go_frame)
  go_ret
  refine ⟨_, rfl, ?_⟩
  rw [EE.out, ← HA5.out]
  exact C13.out.start B0.out
end Go.Proofs.YtlfpjfhpleociaaDoor.Sha

/-
  A store into a header's box turns just that part. Conditions: digests of 32 bytes.
-/
namespace Go.Proofs.YtlfpjfhpleociaaDoor.Sha
open Go Go.RowKit
/-- The header of zeros. -/
def hdZ : THd := ⟨0, List.replicate 32 0, List.replicate 32 0, 0, 0, 0⟩
theorem hdZ_ok : HdOk hdZ := ⟨by simp [hdZ], by simp [hdZ], by simp [hdZ], by simp [hdZ], by simp [hdZ], by simp [hdZ]⟩
theorem hd_zero : Tryd.zeroCells26 = (hdL hdZ).toArray := by kernel_rfl
theorem nV_ones (n : Nat) : ∀ u ∈ [nV n], u.oneCell' = true := by
  intro u hu
  simp only [List.mem_cons, List.not_mem_nil, or_false] at hu
  subst hu
  rfl
theorem HdBox.far {w w' : World} {g q : Nat} {h : THd} (k : HdBox w g h) (hg : w.grownBy w' (some q)) (hq : q ≠ g) : HdBox w' g h := ⟨row_far k.row hg (fun e => hq (Option.some.inj e))⟩
section
variable {ops : Array Oper} {rest : List Oper} {op : Oper} {a : Act} {w : World} {Q : Exit → Act → World → Prop} {g : Nat} {h : THd}
theorem st_ver (hgd : op.guard = none) (x y : Operand) (ho : op.op = .store 22 x y) (hx : a.eval x = .pointer (some ⟨g, 0, none⟩)) (n : Nat) (hy : a.eval y = nV n) (hh : HdOk h) (k : HdBox w g h)
    (hK : ∀ w', HdBox w' g { h with ver := n } → w.grownBy w' (some g) → wpList Tryd.prog ops Q rest (a.put op.dst undef) w') : wpList Tryd.prog ops Q (op :: rest) a w := by
  refine wpList_store_part hgd 22 x y ho g 0 [] [nV h.ver] (h.prev.map bV ++ (h.root.map bV ++ [nV h.time, nV h.work, nV h.nonce])) [nV n] 26 (nV n) hx hy rfl (by simp [hh.2.1, hh.2.2.1]) (by simp) (by rw [k.row]; simp [hdL]) (by kernel_rfl) (nV_ones n) ?_
  intro w' q1 q2
  exact hK w' ⟨by rw [q1]; simp [hdL]⟩ q2
theorem st_prev (hgd : op.guard = none) (x y : Operand) (ho : op.op = .store 24 x y) (hx : a.eval x = .pointer (some ⟨g, 1, none⟩)) (p : List UInt8) (hp : p.length = 32) (hy : a.eval y = .agg (p.map bV).toArray) (hh : HdOk h) (k : HdBox w g h)
    (hK : ∀ w', HdBox w' g { h with prev := p } → w.grownBy w' (some g) → wpList Tryd.prog ops Q rest (a.put op.dst undef) w') : wpList Tryd.prog ops Q (op :: rest) a w := by
  refine wpList_store_part hgd 24 x y ho g 1 [nV h.ver] (h.prev.map bV) (h.root.map bV ++ [nV h.time, nV h.work, nV h.nonce]) (p.map bV) 26 (.agg (p.map bV).toArray) hx hy rfl (by simp [hh.2.1, hh.2.2.1]) (by simp [hp, hh.2.1, hh.2.2.1]) (by rw [k.row]; simp [hdL]) (by rw [List.length_map, hp]; kernel_rfl) (bV_one' p) ?_
  intro w' q1 q2
  exact hK w' ⟨by rw [q1]; simp [hdL]⟩ q2
theorem st_root (hgd : op.guard = none) (x y : Operand) (ho : op.op = .store 24 x y) (hx : a.eval x = .pointer (some ⟨g, 33, none⟩)) (p : List UInt8) (hp : p.length = 32) (hy : a.eval y = .agg (p.map bV).toArray) (hh : HdOk h) (k : HdBox w g h)
    (hK : ∀ w', HdBox w' g { h with root := p } → w.grownBy w' (some g) → wpList Tryd.prog ops Q rest (a.put op.dst undef) w') : wpList Tryd.prog ops Q (op :: rest) a w := by
  refine wpList_store_part hgd 24 x y ho g 33 (nV h.ver :: h.prev.map bV) (h.root.map bV) [nV h.time, nV h.work, nV h.nonce] (p.map bV) 26 (.agg (p.map bV).toArray) hx hy rfl (by simp [hh.2.1, hh.2.2.1]) (by simp [hp, hh.2.1, hh.2.2.1]) (by rw [k.row]; simp [hdL]) (by rw [List.length_map, hp]; kernel_rfl) (bV_one' p) ?_
  intro w' q1 q2
  exact hK w' ⟨by rw [q1]; simp [hdL]⟩ q2
theorem st_time (hgd : op.guard = none) (x y : Operand) (ho : op.op = .store 22 x y) (hx : a.eval x = .pointer (some ⟨g, 65, none⟩)) (n : Nat) (hy : a.eval y = nV n) (hh : HdOk h) (k : HdBox w g h)
    (hK : ∀ w', HdBox w' g { h with time := n } → w.grownBy w' (some g) → wpList Tryd.prog ops Q rest (a.put op.dst undef) w') : wpList Tryd.prog ops Q (op :: rest) a w := by
  refine wpList_store_part hgd 22 x y ho g 65 (nV h.ver :: (h.prev.map bV ++ h.root.map bV)) [nV h.time] [nV h.work, nV h.nonce] [nV n] 26 (nV n) hx hy rfl (by simp [hh.2.1, hh.2.2.1]) (by simp) (by rw [k.row]; simp [hdL]) (by kernel_rfl) (nV_ones n) ?_
  intro w' q1 q2
  exact hK w' ⟨by rw [q1]; simp [hdL]⟩ q2
theorem st_work (hgd : op.guard = none) (x y : Operand) (ho : op.op = .store 22 x y) (hx : a.eval x = .pointer (some ⟨g, 66, none⟩)) (n : Nat) (hy : a.eval y = nV n) (hh : HdOk h) (k : HdBox w g h)
    (hK : ∀ w', HdBox w' g { h with work := n } → w.grownBy w' (some g) → wpList Tryd.prog ops Q rest (a.put op.dst undef) w') : wpList Tryd.prog ops Q (op :: rest) a w := by
  refine wpList_store_part hgd 22 x y ho g 66 (nV h.ver :: (h.prev.map bV ++ (h.root.map bV ++ [nV h.time]))) [nV h.work] [nV h.nonce] [nV n] 26 (nV n) hx hy rfl (by simp [hh.2.1, hh.2.2.1]) (by simp) (by rw [k.row]; simp [hdL]) (by kernel_rfl) (nV_ones n) ?_
  intro w' q1 q2
  exact hK w' ⟨by rw [q1]; simp [hdL]⟩ q2
theorem st_nonce (hgd : op.guard = none) (x y : Operand) (ho : op.op = .store 22 x y) (hx : a.eval x = .pointer (some ⟨g, 67, none⟩)) (n : Nat) (hy : a.eval y = nV n) (hh : HdOk h) (k : HdBox w g h)
    (hK : ∀ w', HdBox w' g { h with nonce := n } → w.grownBy w' (some g) → wpList Tryd.prog ops Q rest (a.put op.dst undef) w') : wpList Tryd.prog ops Q (op :: rest) a w := by
  refine wpList_store_part hgd 22 x y ho g 67 (nV h.ver :: (h.prev.map bV ++ (h.root.map bV ++ [nV h.time, nV h.work]))) [nV h.nonce] [] [nV n] 26 (nV n) hx hy rfl (by simp [hh.2.1, hh.2.2.1]) (by simp) (by rw [k.row]; simp [hdL]) (by kernel_rfl) (nV_ones n) ?_
  intro w' q1 q2
  exact hK w' ⟨by rw [q1]; simp [hdL]⟩ q2
end
end Go.Proofs.YtlfpjfhpleociaaDoor.Sha

/-
  Package head checks a header's work; a header's digest; the statements' first. Nothing that was there turns. Conditions: those that each states.
-/
namespace Go.Proofs.YtlfpjfhpleociaaDoor.Sha
open Go Go.RowKit
/-- Is the work out of its range? -/
def workB (n : Nat) : Bool := decide (n = 0) || decide (16777216 < n)
set_option maxRecDepth 100000 in
theorem check_hd (h : THd) (hh : HdOk h) (w : World) (x : Addr) (hx : w.cell? ⟨1, 0, none⟩ = some (.iface 95 (.pointer (some x)))) (v : Value) (hv : v = if workB h.work then .iface 95 (.pointer (some x)) else .nilIface) :
    Calls Tryd.prog 13 #[.agg (hdL h).toArray] w fun e w' => e = .returned v ∧ Below w.heap.size w w' := by
  have HH := Lib.hid hh
  have HX := Lib.hid hx
  have HV := Lib.hid hv
  obtain ⟨cs, hcs⟩ : ∃ cs, cs = hdL h := ⟨_, rfl⟩
  rw [← hcs]
  have CS := Lib.hid hcs
  clear hcs hh hx hv
  go_enter Tryd.func13, Tryd.ntmps13
  go_upto_region 1 with fail
  rw [CS.out]
  obtain ⟨B, F⟩ := hd_box w h
  generalize hw1 : World.alloc w _ = w1
  rw [hw1] at B F
  have gx : w1.cell? ⟨1, 0, none⟩ = some (.iface 95 (.pointer (some x))) := by
    rw [B.cell (World.block_lt_of_cell? w _ HX.out)]
    exact HX.out
  have c66 := (F.cells HH.out).2.2.1
  obtain ⟨n, hn⟩ : ∃ n, n = h.work := ⟨_, rfl⟩
  rw [← hn] at c66
  have B := Lib.hid B
  have hv := HV.out
  rw [← hn] at hv
  clear F hw1 hn CS HV
  unfold workB at hv
  by_cases h1 : n = 0
  · subst h1
    obtain rfl : v = .iface 95 (.pointer (some x)) := hv
    go_wp2_with fail
    go_ret
    exact ⟨rfl, B.out⟩
  have t1 : ((n : Int) == 0) = false := by rw [beq_eq_false_iff_ne]; omega
  by_cases h2 : 16777216 < n
  · have t2 : (16777216 : Int) < (n : Int) := by omega
    obtain rfl : v = .iface 95 (.pointer (some x)) := by rw [hv, decide_eq_false h1, decide_eq_true h2]; rfl
    clear h1 h2 hv
    go_wp2_with fail
    go_ret
    exact ⟨rfl, B.out⟩
  · have t2 : ¬ (16777216 : Int) < (n : Int) := by omega
    obtain rfl : v = .nilIface := by rw [hv, decide_eq_false h1, decide_eq_false h2]; rfl
    clear h1 h2 hv
    go_wp2_with fail
    go_ret
    exact ⟨rfl, B.out⟩
set_option maxRecDepth 100000 in
theorem first5 (w : World) : Calls Tryd.prog 6 #[] w fun e w' => e = .returned (.bool true) ∧ Below w.heap.size w w' := by
  have BY : Hid (∀ w, Calls Tryd.prog 7 #[.agg Tryd.zeroCells26] w fun e w' => ∃ v, e = .returned v ∧ CopyB w w' v (hdB hdZ)) := fun w => by
    rw [hd_zero]
    exact hdbytes_any hdZ hdZ_ok w
  go_enter Tryd.func6, Tryd.ntmps6
  go_wp2_with fail
  refine (BY.out w).mono ?_
  rintro e w2 ⟨v2, rfl, hc2⟩
  have C2 := Lib.hid hc2
  have e80 := hdB_length hdZ_ok
  obtain ⟨sp, cap, rfl⟩ := hc2.src.shape
  rw [e80] at C2 ⊢
  clear hc2 e80
  go_wp2_with fail
  go_ret
  exact ⟨rfl, C2.out.2⟩
end Go.Proofs.YtlfpjfhpleociaaDoor.Sha

/-
  The statement on a header's work answers true. Conditions: a header of digests of 32 bytes, the error is there.
-/
namespace Go.Proofs.YtlfpjfhpleociaaDoor.Sha
open Go Go.RowKit
set_option maxHeartbeats 1000000 in
set_option maxRecDepth 100000 in
theorem headwork_main (h : THd) (hh : HdOk h) (n : Nat) (hn : n ≤ 4294967295) (w : World) (x : Addr) (hx : w.cell? ⟨1, 0, none⟩ = some (.iface 95 (.pointer (some x)))) :
    Calls Tryd.prog 4 #[.agg (hdL h).toArray, .int .u32 (n : Int)] w fun e w' => e = .returned (.bool true) ∧ Below w.heap.size w w' := by
  have HH := Lib.hid hh
  have HX := Lib.hid hx
  obtain ⟨k, hk⟩ : ∃ k, k = n % 3 := ⟨_, rfl⟩
  have hk3 : k < 3 := by omega
  have m1 : (n : Int).tmod 3 = (k : Int) := by rw [Int.tmod_eq_emod_of_nonneg (by omega)]; omega
  have H1 : Hid (HdOk { h with work := k }) := ⟨hh.1, hh.2.1, hh.2.2.1, hh.2.2.2.1, by show k ≤ _; omega, hh.2.2.2.2.2⟩
  obtain ⟨q, hq⟩ : ∃ q, q = 16777216 + k - 1 := ⟨_, rfl⟩
  have H2 : Hid (HdOk { h with work := q }) := ⟨hh.1, hh.2.1, hh.2.2.1, hh.2.2.2.1, by show q ≤ _; omega, hh.2.2.2.2.2⟩
  have Q1 : Hid ((q : Int) = 16777216 + (k : Int) - 1) := by show _ = _; omega
  have KB := Lib.hid hk3
  have QB : Hid (q = 16777216 + k - 1) := hq
  clear hk hq hh hx
  obtain ⟨cs, hcs⟩ : ∃ cs, cs = hdL h := ⟨_, rfl⟩
  rw [← hcs]
  have CS := Lib.hid hcs
  clear hcs
  go_enter Tryd.func4, Tryd.ntmps4
  go_upto_region 1 with fail
  rw [CS.out]
  obtain ⟨B, F⟩ := hd_box w h
  obtain ⟨g, hg⟩ : ∃ g, g = w.heap.size := ⟨_, rfl⟩
  generalize hw1 : World.alloc w _ = w1
  rw [hw1] at B F
  have G0 : Hid (w.heap.size ≤ g) := by show _ ≤ _; omega
  rw [← hg] at F ⊢
  have B := Lib.hid B
  have F := Lib.hid F
  clear hw1 hg CS
  go_wp2_with fail
  refine (first5 w1).mono ?_
  rintro e w2 ⟨rfl, hb2⟩
  have F := Lib.hid (F.out.below hb2)
  have B := Lib.hid (B.out.trans (hb2.mono B.out.size))
  clear hb2
  go_upto_region 5 with ((with_reducible show wpList _ _ _ _ _ _); refine st_work (g := g) (h := h) rfl (.tmp 13) (.tmp 12) rfl rfl k rfl HH.out F.out ?_; intro w3 q1 q2; have F1 := Lib.hid q1; have B1 := Lib.hid (B.out.grown q2 B.out.size (fun k hk => by cases hk; exact G0.out)); clear q1 q2; go_frame)
  obtain ⟨l1, hl1⟩ : ∃ l, l = hdL { h with work := k } := ⟨_, rfl⟩
  have LN1 : Hid (l1.length = 68) := by show _ = _; rw [hl1]; exact hdL_length H1.out
  have R1 : Hid (w3.heap[g]? = some (.cells l1.toArray 26 (0, 0))) := by show _ = _; rw [hl1]; exact F1.out.row
  have RX : Hid (∀ w', Below w.heap.size w w' → w'.cell? ⟨1, 0, none⟩ = some (.iface 95 (.pointer (some x)))) := fun w' hw' => by
    rw [hw'.cell (World.block_lt_of_cell? w _ HX.out)]
    exact HX.out
  obtain ⟨v1, hv1⟩ : ∃ v, v = if workB k then Value.iface 95 (.pointer (some x)) else .nilIface := ⟨_, rfl⟩
  have CK1 : Hid (∀ w', Below w.heap.size w w' → Calls Tryd.prog 13 #[.agg l1.toArray] w' fun e w'' => e = .returned v1 ∧ Below w'.heap.size w' w'') := fun w' hw' => by rw [hl1]; exact check_hd _ H1.out w' x (RX.out w' hw') v1 hv1
  obtain ⟨l2, hl2⟩ : ∃ l, l = hdL { h with work := q } := ⟨_, rfl⟩
  have LN2 : Hid (l2.length = 68) := by show _ = _; rw [hl2]; exact hdL_length H2.out
  obtain ⟨v2, hv2⟩ : ∃ v, v = if workB q then Value.iface 95 (.pointer (some x)) else .nilIface := ⟨_, rfl⟩
  have CK2 : Hid (∀ w', Below w.heap.size w w' → Calls Tryd.prog 13 #[.agg l2.toArray] w' fun e w'' => e = .returned v2 ∧ Below w'.heap.size w' w'') := fun w' hw' => by rw [hl2]; exact check_hd _ H2.out w' x (RX.out w' hw') v2 hv2
  have L2 := Lib.hid hl2
  have V1 := Lib.hid hv1
  have V2 := Lib.hid hv2
  clear hl1 hl2 hv1 hv2 F B
  go_wp2_with ((with_reducible show wpList _ _ _ _ _ _); refine wpList_load_row rfl 26 (.tmp 2) rfl g rfl 26 l1.toArray (0, 0) _ R1.out Tryd.underlying26 rfl (by show _ = some l1.length; rw [LN1.out] <;> kernel_rfl) ?_; go_frame)
  refine (CK1.out w3 B1.out).mono ?_
  rintro e w4 ⟨rfl, hb4⟩
  have F4 := Lib.hid (F1.out.below hb4)
  have B4 := Lib.hid (B1.out.trans (hb4.mono B1.out.size))
  clear hb4 R1 F1 B1 CK1
  go_upto_region 7 with ((with_reducible show wpList _ _ _ _ _ _); refine st_work (g := g) (h := { h with work := k }) rfl (.tmp 20) (.tmp 19) rfl rfl q (congrArg (Value.int .u32) Q1.out.symm) H1.out F4.out ?_; intro w5 q1 q2; have F5 := Lib.hid q1; have B5 := Lib.hid (B4.out.grown q2 B4.out.size (fun k hk => by cases hk; exact G0.out)); clear q1 q2; go_frame)
  have R5 : Hid (w5.heap[g]? = some (.cells l2.toArray 26 (0, 0))) := by show _ = _; rw [L2.out]; exact F5.out.row
  go_wp2_with ((with_reducible show wpList _ _ _ _ _ _); refine wpList_load_row rfl 26 (.tmp 2) rfl g rfl 26 l2.toArray (0, 0) _ R5.out Tryd.underlying26 rfl (by show _ = some l2.length; rw [LN2.out] <;> kernel_rfl) ?_; go_frame)
  refine (CK2.out w5 B5.out).mono ?_
  rintro e w6 ⟨rfl, hb6⟩
  have B6 := Lib.hid (B5.out.trans (hb6.mono B5.out.size))
  clear hb6 R5 F5 B5 CK2
  have kb := KB.out
  by_cases k0 : k = 0
  · obtain rfl : v1 = .iface 95 (.pointer (some x)) := by rw [V1.out, k0]; rfl
    obtain rfl : v2 = .nilIface := by rw [V2.out, QB.out, k0]; rfl
    have t1 : ¬ (0 : Int) < (k : Int) := by omega
    have t2 : (k : Int) < 2 := by omega
    clear k0 kb
    go_wp2_with fail
    go_ret
    exact ⟨rfl, B6.out⟩
  by_cases k1 : k = 1
  · obtain rfl : v1 = .nilIface := by rw [V1.out, k1]; rfl
    obtain rfl : v2 = .nilIface := by rw [V2.out, QB.out, k1]; rfl
    have t1 : (0 : Int) < (k : Int) := by omega
    have t2 : (k : Int) < 2 := by omega
    clear k0 k1 kb
    go_wp2_with fail
    go_ret
    exact ⟨rfl, B6.out⟩
  have k2 : k = 2 := by omega
  obtain rfl : v1 = .nilIface := by rw [V1.out, k2]; rfl
  obtain rfl : v2 = .iface 95 (.pointer (some x)) := by rw [V2.out, QB.out, k2]; rfl
  have t1 : (0 : Int) < (k : Int) := by omega
  have t2 : decide ((k : Int) < 2) = false := by rw [decide_eq_false_iff_not]; omega
  clear k0 k1 k2 kb
  go_wp2_with fail
  go_ret
  exact ⟨rfl, B6.out⟩
end Go.Proofs.YtlfpjfhpleociaaDoor.Sha

/-
  What a row that lists 25 errors of package api gives: each is there, each its own; a start that fits. No conditions.
-/
namespace Go.Proofs.YtlfpjfhpleociaaDoor.Sha
open Go Go.ChangeShapes Go.WideShapes Go.ChangeAt Go.RowKit
/-- The listed errors: name, place, text. -/
def errAllList : List (String × Nat × List UInt8) := [("sargasso/api.ErrEnd", 2, [105, 116, 32, 101, 110, 100, 115, 32, 116, 111, 111, 32, 101, 97, 114, 108, 121]), ("sargasso/api.ErrShape", 0, [110, 111, 116, 32, 97, 115, 32, 105, 116, 32, 104, 97, 115, 32, 116, 111, 32, 98, 101]), ("sargasso/api.ErrLong", 3, [116, 111, 111, 32, 108, 111, 110, 103]), ("sargasso/api.ErrMany", 4, [116, 111, 111, 32, 109, 97, 110, 121, 44, 32, 111, 114, 32, 116, 111, 111, 32, 102, 101, 119]), ("sargasso/api.ErrValue", 5, [97, 110, 32, 97, 109, 111, 117, 110, 116, 32, 116, 104, 97, 116, 32, 99, 97, 110, 39, 116, 32, 98, 101]), ("sargasso/api.ErrTwice", 6, [111, 110, 101, 32, 116, 104, 105, 110, 103, 32, 116, 119, 105, 99, 101]), ("sargasso/api.ErrBase", 7, [110, 111, 32, 102, 105, 114, 115, 116, 32, 116, 114, 97, 110, 115, 97, 99, 116, 105, 111, 110, 32, 119, 104, 101, 114, 101, 32, 116, 104, 101, 114, 101, 32, 104, 97, 115, 32, 116, 111, 32, 98, 101, 32, 111, 110, 101, 44, 32, 111, 114, 32, 111, 110, 101, 32, 119, 104, 101, 114, 101, 32, 116, 104, 101, 114, 101, 32, 109, 97, 121, 32, 98, 101, 32, 110, 111, 110, 101]), ("sargasso/api.ErrRoot", 8, [97, 32, 114, 111, 111, 116, 32, 116, 104, 97, 116, 32, 100, 111, 101, 115, 32, 110, 111, 116, 32, 102, 105, 116]), ("sargasso/api.ErrKnown", 9, [107, 110, 111, 119, 110, 32, 97, 108, 114, 101, 97, 100, 121]), ("sargasso/api.ErrParent", 10, [110, 111, 32, 115, 117, 99, 104, 32, 112, 97, 114, 101, 110, 116]), ("sargasso/api.ErrInvalid", 11, [98, 101, 104, 105, 110, 100, 32, 119, 104, 97, 116, 32, 105, 115, 32, 110, 111, 116, 32, 118, 97, 108, 105, 100]), ("sargasso/api.ErrTime", 12, [97, 32, 116, 105, 109, 101, 32, 116, 104, 97, 116, 32, 105, 115, 32, 116, 111, 111, 32, 101, 97, 114, 108, 121]), ("sargasso/api.ErrMissing", 13, [97, 32, 99, 111, 105, 110, 32, 116, 104, 97, 116, 32, 105, 115, 32, 110, 111, 116, 32, 116, 104, 101, 114, 101]), ("sargasso/api.ErrKey", 14, [97, 32, 107, 101, 121, 32, 116, 104, 97, 116, 32, 100, 111, 101, 115, 32, 110, 111, 116, 32, 102, 105, 116]), ("sargasso/api.ErrYoung", 15, [97, 32, 99, 111, 105, 110, 32, 116, 104, 97, 116, 32, 105, 115, 32, 116, 111, 111, 32, 121, 111, 117, 110, 103]), ("sargasso/api.ErrEarly", 16, [116, 111, 111, 32, 101, 97, 114, 108, 121, 32, 116, 111, 32, 98, 101, 32, 116, 97, 107, 101, 110]), ("sargasso/api.ErrLess", 17, [108, 101, 115, 115, 32, 99, 111, 109, 101, 115, 32, 105, 110, 32, 116, 104, 97, 110, 32, 103, 111, 101, 115, 32, 111, 117, 116]), ("sargasso/api.ErrReward", 18, [109, 111, 114, 101, 32, 116, 104, 97, 110, 32, 116, 104, 101, 32, 114, 101, 119, 97, 114, 100]), ("sargasso/api.ErrClash", 19, [97, 32, 99, 111, 105, 110, 32, 116, 104, 97, 116, 32, 105, 115, 32, 115, 112, 101, 110, 116, 32, 105, 110, 32, 116, 104, 101, 32, 112, 111, 111, 108]), ("sargasso/api.ErrLimit", 20, [116, 111, 111, 32, 109, 97, 110, 121, 32, 116, 104, 97, 116, 32, 104, 97, 110, 103, 32, 116, 111, 103, 101, 116, 104, 101, 114]), ("sargasso/api.ErrFull", 21, [116, 104, 101, 114, 101, 32, 105, 115, 32, 110, 111, 32, 114, 111, 111, 109]), ("sargasso/api.ErrRange", 1, [97, 32, 110, 117, 109, 98, 101, 114, 32, 111, 117, 116, 32, 111, 102, 32, 105, 116, 115, 32, 114, 97, 110, 103, 101]), ("sargasso/api.ErrNone", 22, [116, 104, 101, 114, 101, 32, 105, 115, 32, 110, 111, 110, 101]), ("sargasso/api.ErrWord", 23, [110, 111, 32, 115, 117, 99, 104, 32, 119, 111, 114, 100]), ("sargasso/api.ErrNumber", 24, [110, 111, 116, 32, 97, 32, 110, 117, 109, 98, 101, 114])]
def errAllRow (x : String × Nat × List UInt8) : String × DataW Unit := (x.1, .iface "*errors.errorString" (.ptr (.agg [.lit (.string x.2.2)])))
theorem errAll_globals : (errAllList.all fun x => decide (Tryd.prog.globalNamed x.1 = some x.2.1) && decide ((Tryd.prog.globals[x.2.1]?).map (·.type) = some 31)) = true := by kernel_rfl
theorem errAll_star : "*" ++ "errors.errorString" = "*errors.errorString" := by decide
theorem errAll_ptr (u : TypeId) (h : Tryd.prog.typeName? 3 u = some "*errors.errorString") : u = 95 :=
  typeName_ptr_named (nm := "errors.errorString") (by rw [errAll_star]; kernel_rfl) (by kernel_rfl) (by decide) u (by rw [errAll_star]; exact h)
theorem errAll_cells : Tryd.prog.cellsOf 113 = 1 := by kernel_rfl
theorem errAll_cellsStr : Tryd.prog.cellsOf 9 = 1 := by kernel_rfl
def errAllIs (W : World) (x : String × Nat × List UInt8) (a : Addr) : Prop :=
  W.cell? ⟨x.2.1, 0, none⟩ = some (.iface 95 (.pointer (some a))) ∧ (∃ s, W.cell? a = some (.string s) ∧ s.data.toList = x.2.2) ∧ ∃ c t, W.heap[a.block]? = some (.cells c t (0, 0))
set_option maxRecDepth 100000 in
theorem errAll_head {W : World} {x : String × Nat × List UInt8} {r : List (String × DataW Unit)} (hg : Tryd.prog.globalNamed x.1 = some x.2.1) (ht : (Tryd.prog.globals[x.2.1]?).map (·.type) = some 31) (h : laidMet Tryd.prog (errAllRow x :: r) W) : ∃ a, errAllIs W x a := by
  obtain ⟨a, s, h1, h2, h3, _⟩ := laid_sentinel h hg ht Tryd.underlying31 errAll_ptr Tryd.underlying95 Tryd.underlying113 rfl rfl Tryd.underlying9 errAll_cells errAll_cellsStr
  refine ⟨a, by simpa using World.var?_cell hg h1 0, ⟨s, h2, h3⟩, ?_⟩
  obtain ⟨ps, ⟨g0, t0, cs0, f0, p0, q0, hg0, ht0, hv0, hd0, _, e0⟩, _, hrows⟩ := h
  obtain rfl := Option.some.inj (hg.symm.trans hg0)
  obtain rfl := Option.some.inj (ht.symm.trans ht0)
  subst e0
  obtain ⟨l0⟩ := cs0
  have ok0 : ∀ u v, l0 = [.iface u v] → Value.okWide Tryd.prog W .any 0 u v := fun u v e => by
    subst e
    exact (hrows x.2.1 0 (by simp [MemPlace.row])).2 u v (by simpa using World.var?_cell hg hv0 0)
  obtain ⟨a0, s0, rfl, hc0, hs0, hz0, rfl⟩ := errorString_of_trod Tryd.underlying31 errAll_ptr Tryd.underlying95 Tryd.underlying113 rfl rfl Tryd.underlying9 errAll_cells errAll_cellsStr hd0 ok0
  have ea : a0 = a := by
    have := h1.symm.trans hv0
    simp at this
    exact this.symm
  rw [← ea]
  exact (hrows a0.block a0.off (by simp [MemPlace.row])).1
theorem errAll_all {W : World} (rest : List (String × DataW Unit)) : ∀ l : List (String × Nat × List UInt8), (∀ x ∈ l, Tryd.prog.globalNamed x.1 = some x.2.1 ∧ (Tryd.prog.globals[x.2.1]?).map (·.type) = some 31) → laidMet Tryd.prog (l.map errAllRow ++ rest) W → (∃ E : Nat → Addr, ∀ i x, l[i]? = some x → errAllIs W x (E i)) ∧ laidMet Tryd.prog rest W
  | [], _, h => ⟨⟨fun _ => ⟨0, 0, none⟩, fun i x h => by simp at h⟩, h⟩
  | x :: l, hg, h => by
    obtain ⟨⟨E, hE⟩, hrest⟩ := errAll_all rest l (fun y hy => hg y (List.mem_cons_of_mem _ hy)) (laidMet.tail h)
    obtain ⟨a, ha⟩ := errAll_head (hg x List.mem_cons_self).1 (hg x List.mem_cons_self).2 h
    refine ⟨⟨fun i => match i with | 0 => a | k + 1 => E k, fun i y hy => ?_⟩, hrest⟩
    cases i with
    | zero => simp at hy; subst hy; exact ha
    | succ k => exact hE k y (by simpa using hy)
theorem errAll_inj : ∀ i j : Fin 25, (errAllList.map (·.2.2)).getD i.val [] = (errAllList.map (·.2.2)).getD j.val [] → i = j := by decide +kernel
set_option maxRecDepth 100000 in
theorem errAll_errs {W : World} (h : laidMetH Tryd.prog Rows.headBackRow.laid W) : ∃ E, Errs W E := by
  have h' : laidMet Tryd.prog (errAllList.map errAllRow ++ []) W := h
  obtain ⟨⟨E, hE⟩, _⟩ := errAll_all _ errAllList (fun x hx => by
    have := List.all_eq_true.1 errAll_globals x hx
    simp only [Bool.and_eq_true, decide_eq_true_eq] at this
    exact this) h'
  have hl : errAllList.length = 25 := rfl
  have get : ∀ i (hi : i < 25), errAllIs W (errAllList[i]'(by rw [hl]; exact hi)) (E i) := fun i hi => hE i _ (List.getElem?_eq_getElem (by rw [hl]; exact hi))
  refine ⟨E, fun i hi => ?_, fun i j hi hj e => ?_⟩
  · obtain ⟨h1, _, h3⟩ := get i hi
    refine ⟨?_, h3⟩
    have eg : errG.getD i 0 = (errAllList[i]'(by rw [hl]; exact hi)).2.1 := by
      have : errG = errAllList.map (·.2.1) := rfl
      rw [this]
      simp [List.getD, List.getElem?_eq_getElem (show i < errAllList.length by rw [hl]; exact hi)]
    rw [eg]
    exact h1
  · obtain ⟨_, ⟨s, hs, ht⟩, _⟩ := get i hi
    obtain ⟨_, ⟨s', hs', ht'⟩, _⟩ := get j hj
    rw [e] at hs
    have es := Option.some.inj (hs.symm.trans hs')
    simp at es
    rw [es] at ht
    have := errAll_inj ⟨i, hi⟩ ⟨j, hj⟩ (by
      simp only [List.getD, List.getElem?_map]
      rw [List.getElem?_eq_getElem (show i < errAllList.length by rw [hl]; exact hi), List.getElem?_eq_getElem (show j < errAllList.length by rw [hl]; exact hj)]
      exact ht.symm.trans ht')
    exact congrArg Fin.val this
/-- A WORLD FOR THE WITNESS: the settled one, each listed error as its initialiser lays it. -/
noncomputable def errAllLow : Nat := (World.holding Tryd.prog default ⟨#[], #[], []⟩).heap.size
noncomputable def errAllWorld (os : Os) : World :=
  let w0 := World.holding Tryd.prog os ⟨(errAllList.map fun x => Obj.cells #[.string ⟨x.2.2.toArray⟩] 113).toArray, #[], []⟩
  { w0 with heap := (errAllList.zipIdx).foldl (fun h x => h.modify x.1.2.1 fun
      | .cells _ t frozen => .cells #[.iface 95 (.pointer (some ⟨errAllLow + x.2, 0, none⟩))] t frozen
      | o => o) w0.heap }
end Go.Proofs.YtlfpjfhpleociaaDoor.Sha

/-
  Package head takes a header from a Reader. Nothing that was there turns but the Reader. Conditions: the Reader stands as it should; the errors are there.
-/
namespace Go.Proofs.YtlfpjfhpleociaaDoor.Sha
open Go Go.RowKit
theorem le4' {bs x b : List UInt8} {c d : Nat} (h : takeL 4 bs c = (x, b, d)) : leN x ≤ 4294967295 := by
  have hx : x.length ≤ 4 := by have := takeL_le 4 bs c; rw [h] at this; exact this
  have h1 := leN_lt x
  have h2 : 256 ^ x.length ≤ 256 ^ 4 := Nat.pow_le_pow_right (by omega) hx
  have h3 : (256 : Nat) ^ 4 = 4294967296 := rfl
  omega
theorem pad32 {bs x b : List UInt8} {c d : Nat} (h : takeL 32 bs c = (x, b, d)) : (padH x).length = 32 := padH_length (by have := takeL_le 32 bs c; rw [h] at this; exact this)
/-- A header out of its parts. -/
theorem hdP_laid (bs x1 b1 x2 b2 x3 b3 x4 b4 x5 b5 x6 b6 : List UInt8) (c d1 d2 d3 d4 d5 d6 : Nat) (h1 : takeL 4 bs c = (x1, b1, d1)) (h2 : takeL 32 b1 d1 = (x2, b2, d2)) (h3 : takeL 32 b2 d2 = (x3, b3, d3)) (h4 : takeL 4 b3 d3 = (x4, b4, d4)) (h5 : takeL 4 b4 d4 = (x5, b5, d5)) (h6 : takeL 4 b5 d5 = (x6, b6, d6)) :
    hdP bs c = (⟨leN x1, padH x2, padH x3, leN x4, leN x5, leN x6⟩, b6, d6) := by
  simp only [hdP, thenP, mapP, leP, h1, h2, h3, h4, h5, h6]
theorem noHd_Z : noHd = hdZ := rfl
theorem okNum {h : THd} : HdOk h ↔ h.ver ≤ 4294967295 ∧ h.prev.length = 32 ∧ h.root.length = 32 ∧ h.time ≤ 4294967295 ∧ h.work ≤ 4294967295 ∧ h.nonce ≤ 4294967295 := Iff.rfl
def HtPost (E : Nat → Addr) (m : Nat) (h : THd) (b : List UInt8) (d r : Nat) (w : World) (e : Ending) (w' : World) : Prop :=
  e = .returned (.agg (hdL h).toArray) ∧ RdI E m w' r b d ∧ w.grownBy w' (some r)
set_option maxHeartbeats 2000000 in
set_option maxRecDepth 100000 in
theorem take_hd (E : Nat → Addr) (m : Nat) (bs : List UInt8) (c r : Nat) (w : World) (hE : ErR w E r) (hr : RdI E m w r bs c) (hm : m < w.heap.size) (h : THd) (bz : List UInt8) (dz : Nat) (ht : takeHd bs c = (h, bz, dz)) :
    Calls Tryd.prog 19 #[.pointer (some ⟨r, 0, none⟩)] w (HtPost E m h bz dz r w) := by
  obtain ⟨x1, b1, d1, h1⟩ : ∃ x b d, takeL 4 bs c = (x, b, d) := ⟨_, _, _, rfl⟩
  obtain ⟨x2, b2, d2, h2⟩ : ∃ x b d, takeL 32 b1 d1 = (x, b, d) := ⟨_, _, _, rfl⟩
  obtain ⟨x3, b3, d3, h3⟩ : ∃ x b d, takeL 32 b2 d2 = (x, b, d) := ⟨_, _, _, rfl⟩
  obtain ⟨x4, b4, d4, h4⟩ : ∃ x b d, takeL 4 b3 d3 = (x, b, d) := ⟨_, _, _, rfl⟩
  obtain ⟨x5, b5, d5, h5⟩ : ∃ x b d, takeL 4 b4 d4 = (x, b, d) := ⟨_, _, _, rfl⟩
  obtain ⟨x6, b6, d6, h6⟩ : ∃ x b d, takeL 4 b5 d5 = (x, b, d) := ⟨_, _, _, rfl⟩
  unfold takeHd at ht
  rw [hdP_laid bs x1 b1 x2 b2 x3 b3 x4 b4 x5 b5 x6 b6 c d1 d2 d3 d4 d5 d6 h1 h2 h3 h4 h5 h6] at ht
  have l1 := le4' h1
  have l2 := pad32 h2
  have l3 := pad32 h3
  have l4 := le4' h4
  have l5 := le4' h5
  have l6 := le4' h6
  have T1 := Lib.hid h1
  have T2 := Lib.hid h2
  have T3 := Lib.hid h3
  have T4 := Lib.hid h4
  have T5 := Lib.hid h5
  have T6 := Lib.hid h6
  obtain ⟨V1, hV1⟩ : ∃ N, N = leN x1 := ⟨_, rfl⟩
  obtain ⟨V2, hV2⟩ : ∃ N, N = padH x2 := ⟨_, rfl⟩
  obtain ⟨V3, hV3⟩ : ∃ N, N = padH x3 := ⟨_, rfl⟩
  obtain ⟨V4, hV4⟩ : ∃ N, N = leN x4 := ⟨_, rfl⟩
  obtain ⟨V5, hV5⟩ : ∃ N, N = leN x5 := ⟨_, rfl⟩
  obtain ⟨V6, hV6⟩ : ∃ N, N = leN x6 := ⟨_, rfl⟩
  rw [← hV1, ← hV2, ← hV3, ← hV4, ← hV5, ← hV6] at ht
  rw [← hV1] at l1
  rw [← hV2] at l2
  rw [← hV3] at l3
  rw [← hV4] at l4
  rw [← hV5] at l5
  rw [← hV6] at l6
  have L1 := Lib.hid l1
  have L2 := Lib.hid l2
  have L3 := Lib.hid l3
  have L4 := Lib.hid l4
  have L5 := Lib.hid l5
  have L6 := Lib.hid l6
  have HTt := Lib.hid ht
  have HE := Lib.hid hE
  have HR := Lib.hid hr
  have HM := Lib.hid hm
  have HV1 := Lib.hid hV1
  have HV2 := Lib.hid hV2
  have HV3 := Lib.hid hV3
  have HV4 := Lib.hid hV4
  have HV5 := Lib.hid hV5
  have HV6 := Lib.hid hV6
  clear hE hr hm h1 h2 h3 h4 h5 h6 ht hV1 hV2 hV3 hV4 hV5 hV6 l1 l2 l3 l4 l5 l6
  go_enter Tryd.func19, Tryd.ntmps19
  go_upto_region 2 with fail
  rw [hd_zero]
  have hf3 : HdBox ((w.alloc (.cells (hdL hdZ).toArray 26)).alloc (.cells (hdL hdZ).toArray 26)) (w.heap.size + 1) hdZ := by
    have h := (hd_box (w.alloc (.cells (hdL hdZ).toArray 26)) hdZ).2
    rwa [World.size_alloc] at h
  have hf2 : HdBox ((w.alloc (.cells (hdL hdZ).toArray 26)).alloc (.cells (hdL hdZ).toArray 26)) w.heap.size hdZ := (hd_box w hdZ).2.below (hd_box _ hdZ).1
  have bb := (hd_box w hdZ).1.trans ((hd_box (w.alloc (.cells (hdL hdZ).toArray 26)) hdZ).1.mono (hd_box w hdZ).1.size)
  generalize hw0 : World.alloc (World.alloc w _) _ = w0
  rw [hw0] at hf3 hf2 bb
  obtain ⟨g3, hg3⟩ : ∃ g3, g3 = w.heap.size + 1 := ⟨_, rfl⟩
  obtain ⟨g2, hg2⟩ : ∃ g2, g2 = w.heap.size := ⟨_, rfl⟩
  have hrl := HR.out.lt
  have hml := HM.out
  have NR3 : Hid (r ≠ g3) := by show _ ≠ _; omega
  have NR2 : Hid (r ≠ g2) := by show _ ≠ _; omega
  have N32 : Hid (g3 ≠ g2) := by show _ ≠ _; omega
  have NM3 : Hid (m ≠ g3) := by show _ ≠ _; omega
  have NM2 : Hid (m ≠ g2) := by show _ ≠ _; omega
  have W3 : Hid (w.heap.size ≤ g3) := by show _ ≤ _; omega
  have W2 : Hid (w.heap.size ≤ g2) := by show _ ≤ _; omega
  rw [← hg2] at hf2
  rw [← hg3] at hf3
  rw [← hg3, ← hg2]
  have HF := Lib.hid hf3
  have HP := Lib.hid hf2
  have HG : Hid (w.grownBy w0 (some r)) := grownBy_of_below bb _
  have HRd := Lib.hid (HR.out.below bb)
  clear hf3 hf2 bb hw0 hg3 hg2 hrl hml
  go_wp2_with fail
  refine (four_is E m bs x1 b1 c d1 r w0 (HE.out.grown HG.out) HRd.out T1.out).mono ?_
  rintro e w1 ⟨rfl, i1, g1⟩
  have HRd := Lib.hid i1
  have HG := Lib.hid (grownBy_trans HG.out g1)
  have HF := Lib.hid (HF.out.far g1 NR3.out)
  have HP := Lib.hid (HP.out.far g1 NR2.out)
  clear i1 g1
  rw [← HV1.out]
  go_upto_region 3 with ((with_reducible show wpList _ _ _ _ _ _); refine st_ver (g := g3) (h := ⟨hdZ.ver, hdZ.prev, hdZ.root, hdZ.time, hdZ.work, hdZ.nonce⟩) rfl (.tmp 6) (.tmp 5) rfl rfl V1 rfl ⟨hdZ_ok.1, hdZ_ok.2.1, hdZ_ok.2.2.1, hdZ_ok.2.2.2.1, hdZ_ok.2.2.2.2.1, hdZ_ok.2.2.2.2.2⟩ HF.out ?_; intro w2 q1 q2; have HF : Hid (HdBox w2 g3 ⟨V1, hdZ.prev, hdZ.root, hdZ.time, hdZ.work, hdZ.nonce⟩) := Lib.hid q1; have HQ := Lib.hid q2; clear q1 q2; go_frame)
  have HRd := Lib.hid (HRd.out.grown HQ.out NR3.out.symm (fun _ => NM3.out))
  have HG := Lib.hid (gr_low HG.out HQ.out W3.out)
  have HP := Lib.hid (HP.out.far HQ.out N32.out)
  clear HQ
  go_wp2_with fail
  refine (hash_is E m b1 x2 b2 d1 d2 r w2 (HE.out.grown HG.out) HRd.out T2.out).mono ?_
  rintro e w3 ⟨rfl, i1, g1⟩
  have HRd := Lib.hid i1
  have HG := Lib.hid (grownBy_trans HG.out g1)
  have HF := Lib.hid (HF.out.far g1 NR3.out)
  have HP := Lib.hid (HP.out.far g1 NR2.out)
  clear i1 g1
  rw [← HV2.out]
  go_upto_region 4 with ((with_reducible show wpList _ _ _ _ _ _); refine st_prev (g := g3) (h := ⟨V1, hdZ.prev, hdZ.root, hdZ.time, hdZ.work, hdZ.nonce⟩) rfl (.tmp 9) (.tmp 8) rfl rfl V2 L2.out rfl ⟨L1.out, hdZ_ok.2.1, hdZ_ok.2.2.1, hdZ_ok.2.2.2.1, hdZ_ok.2.2.2.2.1, hdZ_ok.2.2.2.2.2⟩ HF.out ?_; intro w4 q1 q2; have HF : Hid (HdBox w4 g3 ⟨V1, V2, hdZ.root, hdZ.time, hdZ.work, hdZ.nonce⟩) := Lib.hid q1; have HQ := Lib.hid q2; clear q1 q2; go_frame)
  have HRd := Lib.hid (HRd.out.grown HQ.out NR3.out.symm (fun _ => NM3.out))
  have HG := Lib.hid (gr_low HG.out HQ.out W3.out)
  have HP := Lib.hid (HP.out.far HQ.out N32.out)
  clear HQ
  go_wp2_with fail
  refine (hash_is E m b2 x3 b3 d2 d3 r w4 (HE.out.grown HG.out) HRd.out T3.out).mono ?_
  rintro e w5 ⟨rfl, i1, g1⟩
  have HRd := Lib.hid i1
  have HG := Lib.hid (grownBy_trans HG.out g1)
  have HF := Lib.hid (HF.out.far g1 NR3.out)
  have HP := Lib.hid (HP.out.far g1 NR2.out)
  clear i1 g1
  rw [← HV3.out]
  go_upto_region 5 with ((with_reducible show wpList _ _ _ _ _ _); refine st_root (g := g3) (h := ⟨V1, V2, hdZ.root, hdZ.time, hdZ.work, hdZ.nonce⟩) rfl (.tmp 12) (.tmp 11) rfl rfl V3 L3.out rfl ⟨L1.out, L2.out, hdZ_ok.2.2.1, hdZ_ok.2.2.2.1, hdZ_ok.2.2.2.2.1, hdZ_ok.2.2.2.2.2⟩ HF.out ?_; intro w6 q1 q2; have HF : Hid (HdBox w6 g3 ⟨V1, V2, V3, hdZ.time, hdZ.work, hdZ.nonce⟩) := Lib.hid q1; have HQ := Lib.hid q2; clear q1 q2; go_frame)
  have HRd := Lib.hid (HRd.out.grown HQ.out NR3.out.symm (fun _ => NM3.out))
  have HG := Lib.hid (gr_low HG.out HQ.out W3.out)
  have HP := Lib.hid (HP.out.far HQ.out N32.out)
  clear HQ
  go_wp2_with fail
  refine (four_is E m b3 x4 b4 d3 d4 r w6 (HE.out.grown HG.out) HRd.out T4.out).mono ?_
  rintro e w7 ⟨rfl, i1, g1⟩
  have HRd := Lib.hid i1
  have HG := Lib.hid (grownBy_trans HG.out g1)
  have HF := Lib.hid (HF.out.far g1 NR3.out)
  have HP := Lib.hid (HP.out.far g1 NR2.out)
  clear i1 g1
  rw [← HV4.out]
  go_upto_region 6 with ((with_reducible show wpList _ _ _ _ _ _); refine st_time (g := g3) (h := ⟨V1, V2, V3, hdZ.time, hdZ.work, hdZ.nonce⟩) rfl (.tmp 15) (.tmp 14) rfl rfl V4 rfl ⟨L1.out, L2.out, L3.out, hdZ_ok.2.2.2.1, hdZ_ok.2.2.2.2.1, hdZ_ok.2.2.2.2.2⟩ HF.out ?_; intro w8 q1 q2; have HF : Hid (HdBox w8 g3 ⟨V1, V2, V3, V4, hdZ.work, hdZ.nonce⟩) := Lib.hid q1; have HQ := Lib.hid q2; clear q1 q2; go_frame)
  have HRd := Lib.hid (HRd.out.grown HQ.out NR3.out.symm (fun _ => NM3.out))
  have HG := Lib.hid (gr_low HG.out HQ.out W3.out)
  have HP := Lib.hid (HP.out.far HQ.out N32.out)
  clear HQ
  go_wp2_with fail
  refine (four_is E m b4 x5 b5 d4 d5 r w8 (HE.out.grown HG.out) HRd.out T5.out).mono ?_
  rintro e w9 ⟨rfl, i1, g1⟩
  have HRd := Lib.hid i1
  have HG := Lib.hid (grownBy_trans HG.out g1)
  have HF := Lib.hid (HF.out.far g1 NR3.out)
  have HP := Lib.hid (HP.out.far g1 NR2.out)
  clear i1 g1
  rw [← HV5.out]
  go_upto_region 7 with ((with_reducible show wpList _ _ _ _ _ _); refine st_work (g := g3) (h := ⟨V1, V2, V3, V4, hdZ.work, hdZ.nonce⟩) rfl (.tmp 18) (.tmp 17) rfl rfl V5 rfl ⟨L1.out, L2.out, L3.out, L4.out, hdZ_ok.2.2.2.2.1, hdZ_ok.2.2.2.2.2⟩ HF.out ?_; intro w10 q1 q2; have HF : Hid (HdBox w10 g3 ⟨V1, V2, V3, V4, V5, hdZ.nonce⟩) := Lib.hid q1; have HQ := Lib.hid q2; clear q1 q2; go_frame)
  have HRd := Lib.hid (HRd.out.grown HQ.out NR3.out.symm (fun _ => NM3.out))
  have HG := Lib.hid (gr_low HG.out HQ.out W3.out)
  have HP := Lib.hid (HP.out.far HQ.out N32.out)
  clear HQ
  go_wp2_with fail
  refine (four_is E m b5 x6 b6 d5 d6 r w10 (HE.out.grown HG.out) HRd.out T6.out).mono ?_
  rintro e w11 ⟨rfl, i1, g1⟩
  have HRd := Lib.hid i1
  have HG := Lib.hid (grownBy_trans HG.out g1)
  have HF := Lib.hid (HF.out.far g1 NR3.out)
  have HP := Lib.hid (HP.out.far g1 NR2.out)
  clear i1 g1
  rw [← HV6.out]
  go_upto_region 8 with ((with_reducible show wpList _ _ _ _ _ _); refine st_nonce (g := g3) (h := ⟨V1, V2, V3, V4, V5, hdZ.nonce⟩) rfl (.tmp 21) (.tmp 20) rfl rfl V6 rfl ⟨L1.out, L2.out, L3.out, L4.out, L5.out, hdZ_ok.2.2.2.2.2⟩ HF.out ?_; intro w12 q1 q2; have HF : Hid (HdBox w12 g3 ⟨V1, V2, V3, V4, V5, V6⟩) := Lib.hid q1; have HQ := Lib.hid q2; clear q1 q2; go_frame)
  have HRd := Lib.hid (HRd.out.grown HQ.out NR3.out.symm (fun _ => NM3.out))
  have HG := Lib.hid (gr_low HG.out HQ.out W3.out)
  have HP := Lib.hid (HP.out.far HQ.out N32.out)
  clear HQ
  have HQ0 : Hid (∀ cc, d6 = cc + 1 → h = hdZ ∧ bz = b6 ∧ dz = cc + 1) := fun cc hc => by
    have := HTt.out
    rw [if_neg (show ¬ d6 = 0 by omega)] at this
    simp only [Prod.mk.injEq] at this
    exact ⟨this.1.symm, this.2.1.symm, by rw [← this.2.2]; exact hc⟩
  have HQ1 : Hid (d6 = 0 → h = ⟨V1, V2, V3, V4, V5, V6⟩ ∧ bz = b6 ∧ dz = 0) := fun hc => by
    have := HTt.out
    rw [if_pos (show d6 = 0 by omega)] at this
    simp only [Prod.mk.injEq] at this
    exact ⟨this.1.symm, this.2.1.symm, by rw [← this.2.2]; exact hc⟩
  clear HTt
  cases d6 with
  | succ d =>
    obtain ⟨rfl, rfl, rfl⟩ := HQ0.out d rfl
    have EA := err_any E m bz (d + 1) r w12 HRd.out
    change Calls _ _ _ _ (fun e w' => e = .returned (.iface 95 (.pointer (some (E d)))) ∧ w12 = w') at EA
    have EA := Lib.hid EA
    go_wp2_with fail
    refine EA.out.mono ?_
    rintro e w' ⟨rfl, rfl⟩
    clear EA HQ0 HQ1
    go_wp2_with ((with_reducible show wpList _ _ _ _ _ _); refine wpList_store_row rfl 26 (.tmp 2) (.tmp 25) rfl g2 (hdL hdZ).toArray rfl (by kernel_rfl) 26 _ HP.out.row (by kernel_rfl) rfl (hdL_one hdZ) ?_; go_frame)
    refine bodyPost_ret (results_cell_row rfl _ _ g2 26 (hdL hdZ).toArray (0, 0) _ rfl (setRow_heap _ _ _ _ _ _ HP.out.row) Tryd.underlying26 rfl (by kernel_rfl)) rfl ?_
    have hq := setRow_grown (w := w12) (g := g2) (hdL hdZ).toArray
    exact ⟨rfl, HRd.out.grown hq NR2.out.symm (fun _ => NM2.out), gr_low HG.out hq W2.out⟩
  | zero =>
    obtain ⟨rfl, rfl, rfl⟩ := HQ1.out rfl
    have EA := err_any E m bz 0 r w12 HRd.out
    change Calls _ _ _ _ (fun e w' => e = .returned .nilIface ∧ w12 = w') at EA
    have EA := Lib.hid EA
    have OK : HdOk ⟨V1, V2, V3, V4, V5, V6⟩ := ⟨L1.out, L2.out, L3.out, L4.out, L5.out, L6.out⟩
    have SZ := Lib.hid (hdL_size OK)
    have ON := Lib.hid (hdL_one ⟨V1, V2, V3, V4, V5, V6⟩)
    clear OK
    obtain ⟨cs, hcs⟩ : ∃ cs, cs = (hdL ⟨V1, V2, V3, V4, V5, V6⟩).toArray := ⟨_, rfl⟩
    have FR := HF.out.row
    unfold HtPost
    rw [← hcs] at SZ ON FR ⊢
    have FR := Lib.hid FR
    have CS := Lib.hid hcs
    clear hcs HQ0 HQ1
    go_wp2_with fail
    refine EA.out.mono ?_
    rintro e w' ⟨rfl, rfl⟩
    clear EA
    go_wp2_with ((with_reducible show wpList _ _ _ _ _ _); first | (refine wpList_load_row rfl 26 (.tmp 3) rfl g3 rfl 26 cs (0, 0) _ FR.out Tryd.underlying26 rfl (by rw [SZ.out]; kernel_rfl) ?_; go_frame) | (refine wpList_store_row rfl 26 (.tmp 2) (.tmp 26) rfl g2 cs rfl rfl 26 _ HP.out.row (by rw [SZ.out]; kernel_rfl) (by rw [SZ.out]; rfl) ON.out ?_; go_frame))
    refine bodyPost_ret (results_cell_row rfl _ _ g2 26 cs (0, 0) _ rfl (setRow_heap _ _ _ _ _ _ HP.out.row) Tryd.underlying26 rfl (by rw [SZ.out]; kernel_rfl)) rfl ?_
    have hq := setRow_grown (w := w12) (g := g2) cs
    exact ⟨by rw [CS.out], HRd.out.grown hq NR2.out.symm (fun _ => NM2.out), gr_low HG.out hq W2.out⟩
end Go.Proofs.YtlfpjfhpleociaaDoor.Sha

/-
  Package tx reads a transaction out of bytes. Nothing that was there turns. Conditions: the bytes lie where the slice says; the errors are there.
-/
namespace Go.Proofs.YtlfpjfhpleociaaDoor.Sha
open Go Go.RowKit
/-- What a Reader's bytes are as a transaction. -/
structure TakeIs (bs : List UInt8) (t : TTx) (b : List UInt8) (d : Nat) : Prop where
  eq : takeTx bs 0 = (t, b, d)
theorem results_row_tmp {P : Program} {fn : Func} {p u : Tmp} {ty : TypeId} (h : fn.results = #[.cell p ty, .tmp u]) (tmps : Array Value) (w : World) (g : Nat) (t : TypeId) (cs : Array Value) (fr : Nat × Nat) (d : TypeDesc)
    (hx : tmps.getD p undef = .pointer (some ⟨g, 0, none⟩)) (hg : w.heap[g]? = some (.cells cs t fr)) (hu : P.underlying ty = some d) (hd : (match d with | .struct _ | .array _ _ => true | _ => false) = true) (hi : (P.info? ty).map (·.size) = some cs.size) :
    (results fn tmps).run P w = .ok (.tuple #[.agg cs, tmps.getD u undef]) w := by
  rw [results_cell_tmp h, hx]
  simp [asAddr, Result.andThen, run_loadVar_row (P := P) w g t ty cs fr d hg hu hd hi]
end Go.Proofs.YtlfpjfhpleociaaDoor.Sha

/-
  Package head reads a header out of bytes. Nothing that was there turns. Conditions: the bytes lie where the slice says; the errors are there.
-/
namespace Go.Proofs.YtlfpjfhpleociaaDoor.Sha
open Go Go.RowKit
theorem readHd_take (bs : List UInt8) (t0 : THd) (b : List UInt8) (d : Nat) (h : takeHd bs 0 = (t0, b, d)) : readHd bs = if d ≠ 0 then (noHd, d) else if b ≠ [] then (noHd, 2) else (t0, 0) := by
  obtain ⟨p, hp⟩ : ∃ p, hdP bs 0 = p := ⟨_, rfl⟩
  obtain ⟨a, r, c⟩ := p
  unfold takeHd at h
  unfold readHd
  rw [hp] at h ⊢
  by_cases hc : c = 0
  · subst hc
    rw [if_pos rfl] at h
    cases h
    rfl
  · rw [if_neg (show ¬ (a, r, c).2.2 = 0 from hc)] at h
    cases h
    rw [if_pos (show (a, b, d).2.2 ≠ 0 from hc), if_pos hc]
/-- What bytes are as a header. -/
structure HRead (bs : List UInt8) (t : THd) (c : Nat) : Prop where
  eq : readHd bs = (t, c)
/-- What a Reader's bytes are as a header. -/
structure HTake (bs : List UInt8) (t : THd) (b : List UInt8) (d : Nat) : Prop where
  eq : takeHd bs 0 = (t, b, d)
theorem takeHd_ok {bs b : List UInt8} {c d : Nat} {t : THd} (h : takeHd bs c = (t, b, d)) : HdOk t := by
  obtain ⟨x1, b1, d1, h1⟩ : ∃ x b d, takeL 4 bs c = (x, b, d) := ⟨_, _, _, rfl⟩
  obtain ⟨x2, b2, d2, h2⟩ : ∃ x b d, takeL 32 b1 d1 = (x, b, d) := ⟨_, _, _, rfl⟩
  obtain ⟨x3, b3, d3, h3⟩ : ∃ x b d, takeL 32 b2 d2 = (x, b, d) := ⟨_, _, _, rfl⟩
  obtain ⟨x4, b4, d4, h4⟩ : ∃ x b d, takeL 4 b3 d3 = (x, b, d) := ⟨_, _, _, rfl⟩
  obtain ⟨x5, b5, d5, h5⟩ : ∃ x b d, takeL 4 b4 d4 = (x, b, d) := ⟨_, _, _, rfl⟩
  obtain ⟨x6, b6, d6, h6⟩ : ∃ x b d, takeL 4 b5 d5 = (x, b, d) := ⟨_, _, _, rfl⟩
  unfold takeHd at h
  rw [hdP_laid bs x1 b1 x2 b2 x3 b3 x4 b4 x5 b5 x6 b6 c d1 d2 d3 d4 d5 d6 h1 h2 h3 h4 h5 h6] at h
  split at h
  · obtain rfl := (Prod.mk.inj h).1
    exact ⟨le4' h1, pad32 h2, pad32 h3, le4' h4, le4' h5, le4' h6⟩
  · obtain rfl := (Prod.mk.inj h).1
    exact hdZ_ok
theorem HRead.ok {bs : List UInt8} {c : Nat} {t : THd} (h : HRead bs t c) : HdOk t := by
  obtain ⟨t0, b, d, ht⟩ : ∃ t b d, takeHd bs 0 = (t, b, d) := by
    generalize takeHd bs 0 = p
    exact ⟨p.1, p.2.1, p.2.2, rfl⟩
  have e := h.eq
  rw [readHd_take bs t0 b d ht] at e
  have o := takeHd_ok ht
  split at e
  · obtain rfl := (Prod.mk.inj e).1
    exact hdZ_ok
  · split at e
    · obtain rfl := (Prod.mk.inj e).1
      exact hdZ_ok
    · obtain rfl := (Prod.mk.inj e).1
      exact o
theorem hread_pair (bs : List UInt8) : ∃ u c, HRead bs u c := by
  obtain ⟨u, c, h⟩ : ∃ u c, readHd bs = (u, c) := by
    generalize readHd bs = p
    exact ⟨p.1, p.2, rfl⟩
  exact ⟨u, c, ⟨h⟩⟩
set_option maxHeartbeats 2000000 in
set_option maxRecDepth 100000 in
theorem read_hd (E : Nat → Addr) (bs : List UInt8) (v : Value) (w : World) (t : THd) (c : Nat) (hr : HRead bs t c) (hE : Er w E) (hs : SrcB w v bs) (hl : bs.length ≤ 70368744177664) :
    Calls Tryd.prog 8 #[v] w fun e w' => e = .returned (.tuple #[.agg (hdL t).toArray, errV E c]) ∧ Below w.heap.size w w' := by
  obtain ⟨t0, b, d, ht⟩ : ∃ t b d, takeHd bs 0 = (t, b, d) := by
    generalize takeHd bs 0 = p
    exact ⟨p.1, p.2.1, p.2.2, rfl⟩
  have hq := readHd_take bs t0 b d ht
  rw [hr.eq] at hq
  have HQ := Lib.hid hq
  have OK0 := Lib.hid (takeHd_ok ht)
  have HT : HTake bs t0 b d := ⟨ht⟩
  have HE := Lib.hid hE
  have HS := Lib.hid hs
  clear hr hq ht hE hs
  go_enter Tryd.func8, Tryd.ntmps8
  go_upto_region 1 with fail
  rw [hd_zero]
  obtain ⟨hb0, hf0⟩ := hd_box w hdZ
  have hf0 := hf0.row
  generalize hw0 : World.alloc _ _ = w0
  rw [hw0] at hf0 hb0
  obtain ⟨g2, hg2⟩ : ∃ g2, g2 = w.heap.size := ⟨_, rfl⟩
  have HW2 : Hid (w.heap.size ≤ g2) := by show _ ≤ _; rw [hg2]; exact Nat.le_refl _
  rw [← hg2] at hf0 ⊢
  have F0 := Lib.hid hf0
  have B0 := Lib.hid hb0
  have G2L : Hid (g2 < w0.heap.size) := (Array.getElem?_eq_some_iff.1 hf0).1
  clear hf0 hb0 hw0 hg2
  go_wp2_with fail
  refine (read_any E bs v w0 (HS.out.below B0.out) hl).mono ?_
  rintro e w1 ⟨m, r, rfl, i1, hb1, hr1, _⟩
  have B1 := Lib.hid (B0.out.trans (hb1.mono B0.out.size))
  have F1 := Lib.hid (row_below F0.out hb1)
  have G2R : Hid (g2 < r) := Nat.lt_of_lt_of_le G2L.out hr1
  have ER : Hid (ErR w1 E r) := ⟨HE.out.below B1.out, HE.out.lt (Nat.le_trans B0.out.size hr1)⟩
  have WR : Hid (w.heap.size ≤ r) := Nat.le_trans B0.out.size hr1
  obtain ⟨m', hm', i2⟩ := rd_low i1 ER.out
  have R1 := Lib.hid i2
  have M1 := Lib.hid hm'
  clear i1 hb1 hr1 i2 hm'
  go_wp2_with fail
  refine (take_hd E m' bs 0 r w1 ER.out R1.out M1.out t0 b d HT.eq).mono ?_
  rintro e w2 ⟨rfl, i2, g2'⟩
  have R2 := Lib.hid i2
  have F2 := Lib.hid (row_far F1.out g2' (fun e => by have := Option.some.inj e; have := G2R.out; omega))
  have B2 := Lib.hid (B1.out.grown g2' B1.out.size (fun k hk => by cases hk; exact WR.out))
  clear i2 g2' R1 F1 F0
  obtain ⟨l0, hl0⟩ : ∃ l0, l0 = hdL t0 := ⟨_, rfl⟩
  have LN : Hid (l0.length = 68) := by show _ = _; rw [hl0]; exact hdL_length OK0.out
  have ON : Hid (∀ v ∈ l0, v.oneCell' = true) := by show ∀ v ∈ l0, _; rw [hl0]; exact hdL_one' t0
  have L0 := Lib.hid hl0
  rw [← hl0]
  clear hl0
  go_upto_region 3 with ((with_reducible show wpList _ _ _ _ _ _); refine wpList_store_row rfl 26 (.tmp 5) (.tmp 9) rfl w2.heap.size l0.toArray rfl rfl 26 _ (heap_alloc_new _ _) (by show _ = some l0.length; rw [LN.out] <;> kernel_rfl) (by show _ = l0.length; rw [LN.out] <;> rfl) (all_oneCell_toArray ON.out) ?_; go_frame)
  rw [hd_zero]
  obtain ⟨_, f2, f3, f4⟩ := fill_setup (Below.refl w2.heap.size w2) (hdL hdZ).toArray l0.toArray 26
  obtain ⟨g5, hg5⟩ : ∃ g5, g5 = w2.heap.size := ⟨_, rfl⟩
  generalize hw3 : World.setRow _ _ _ = w3
  rw [hw3] at f2 f4
  rw [← hg5] at f2 ⊢
  have G25 : Hid (g2 ≠ g5) := by show _ ≠ _; have := (Array.getElem?_eq_some_iff.1 F2.out).1; omega
  have F5 := Lib.hid f2
  have N3 := Lib.hid f4
  have F3 := Lib.hid (row_below F2.out f4)
  have R3 := Lib.hid (R2.out.below f4)
  have B3 := Lib.hid (B2.out.trans (f4.mono B2.out.size))
  clear f2 f3 f4 hw3 hg5 R2 F2
  have FIN : Hid (∀ w4, w3.grownBy w4 (some g2) → Below w.heap.size w w4) := fun w4 h4 => B3.out.grown h4 B3.out.size (fun k hk => by cases hk; exact HW2.out)
  cases d with
  | succ d =>
    obtain ⟨rfl, rfl⟩ : t = noHd ∧ c = d + 1 := by
      have := HQ.out
      rw [if_pos (by omega)] at this
      simpa using this
    have e0 : t0 = noHd := by
      have := HT.eq
      unfold takeHd at this
      split at this
      · rename_i h
        rw [this] at h
        simp at h
      · exact (congrArg Prod.fst this).symm
    have E0 := Lib.hid e0
    clear e0
    have EA := err_any E m' b (d + 1) r w3 R3.out
    change Calls _ _ _ _ (fun e w' => e = .returned (.iface 95 (.pointer (some (E d)))) ∧ w3 = w') at EA
    have EA := Lib.hid EA
    go_wp2_with fail
    refine EA.out.mono ?_
    rintro e w' ⟨rfl, rfl⟩
    clear EA
    go_wp2_with fail
    refine wp_region_held_drew (S := (fun w' => w'.heap[g5]? = some (.cells l0.toArray 26 (0, 0)))) (by kernel_rfl) F5.out (fun hHeld => ?_)
    have bb := Below.drew (Below.refl w3.heap.size w3)
    generalize hwd : w3.drew = wd
    rw [hwd] at hHeld bb
    have BD := Lib.hid bb
    have EA : Calls _ _ _ _ (fun e w' => e = .returned (.iface 95 (.pointer (some (E d)))) ∧ wd = w') := (err_any E m' b (d + 1) r wd (R3.out.below bb))
    have FD := Lib.hid (row_below F3.out bb)
    clear hwd bb
    refine held_take (i := 0) (v := (.agg l0.toArray)) rfl (by kernel_rfl) (by kernel_rfl) (by kernel_rfl) (fun _ _ _ h => h) (yieldsIf_load_row (by rfl) 26 _ rfl g5 rfl 26 _ (0, 0) _ (fun w' hw' => hw') Tryd.underlying26 rfl (by show _ = some l0.length; rw [LN.out] <;> kernel_rfl)) hHeld ?_
    go_frame
    refine held_take (i := 1) (v := (.pointer (some ⟨r, 0, none⟩))) rfl (by kernel_rfl) (by kernel_rfl) (by kernel_rfl) (fun _ _ _ h => h) (Or.inl ⟨by rfl, fun w' _ => by kernel_rfl⟩) hHeld ?_
    go_frame
    refine wpAnyH_ready (rs := [2]) (by kernel_rfl) (by simp) (held_cons rfl (fun K hK => ?_) AllReadyH.nil)
    go_simp
    refine EA.mono ?_
    rintro e w' ⟨rfl, rfl⟩
    go_wp2_with fail
    refine hK.out _ _ hHeld (fun hHeld => ?_)
    clear hK K
    refine wpAnyH_ready (rs := [3]) (by kernel_rfl) (by simp) (held_cons rfl (fun K hK => ?_) AllReadyH.nil)
    rw [if_pos (by rfl)]
    refine wp_store_part 26 (.tmp 2) (.tmp 20) rfl g2 0 [] (hdL hdZ) [] l0 26 (.agg l0.toArray) rfl rfl rfl rfl (by rw [LN.out]; exact hdL_length hdZ_ok) (by simpa using FD.out) (by rw [LN.out] <;> kernel_rfl) ON.out ?_
    intro w5 q1 q2
    have F6 : Hid (w5.heap[g2]? = some (.cells l0.toArray 26 (0, 0))) := by show _ = _; simpa using q1
    have Q := Lib.hid (grownBy_trans (grownBy_of_below BD.out _) q2)
    have hS := row_far hHeld q2 (fun e => G25.out (Option.some.inj e))
    clear q1 q2 hHeld
    go_frame
    refine hK.out _ _ hS (fun hHeld => ?_)
    clear hK K hS
    refine held_take (i := 4) (v := (.iface 95 (.pointer (some (E d))))) rfl (by kernel_rfl) (by kernel_rfl) (by kernel_rfl) (fun _ _ _ h => h) (Or.inl ⟨by rfl, fun w' _ => by kernel_rfl⟩) hHeld ?_
    go_frame
    refine wpAnyH_done (by kernel_rfl) ?_ _
    clear hHeld
    go_wp2_with fail
    refine bodyPost_ret (results_row_tmp rfl _ _ g2 26 l0.toArray (0, 0) _ rfl F6.out Tryd.underlying26 rfl (by show _ = some l0.length; rw [LN.out] <;> kernel_rfl)) rfl ?_
    exact ⟨by rw [L0.out, E0.out]; rfl, FIN.out w5 Q.out⟩
  | zero =>
    have EA := err_any E m' b 0 r w3 R3.out
    change Calls _ _ _ _ (fun e w' => e = .returned .nilIface ∧ w3 = w') at EA
    have EA := Lib.hid EA
    have LA := Lib.hid (left_any E m' b 0 r w3 R3.out)
    by_cases hb : b = []
    · obtain ⟨rfl, rfl⟩ : t0 = t ∧ 0 = c := by
        have := HQ.out
        rw [if_neg (by simp), if_neg (by simpa using hb)] at this
        simp only [Prod.mk.injEq] at this
        exact ⟨this.1.symm, this.2.symm⟩
      have LA2 : Hid (Calls Tryd.prog 21 #[.pointer (some ⟨r, 0, none⟩)] w3 fun e w' => e = .returned (.int .i64 0) ∧ w3 = w') := by
        have := LA.out
        rw [hb] at this
        exact this
      clear LA hb
      go_wp2_with fail
      refine EA.out.mono ?_
      rintro e w' ⟨rfl, rfl⟩
      clear EA
      go_wp2_with fail
      refine LA2.out.mono ?_
      rintro e w' ⟨rfl, rfl⟩
      clear LA2
      go_wp2_with fail
      refine wp_region_held_drew (S := (fun w' => w'.heap[g5]? = some (.cells l0.toArray 26 (0, 0)))) (by kernel_rfl) F5.out (fun hHeld => ?_)
      have bb := Below.drew (Below.refl w3.heap.size w3)
      generalize hwd : w3.drew = wd
      rw [hwd] at hHeld bb
      have BD := Lib.hid bb
      have EA : Calls _ _ _ _ (fun e w' => e = .returned (.nilIface) ∧ wd = w') := (err_any E m' b 0 r wd (R3.out.below bb))
      have FD := Lib.hid (row_below F3.out bb)
      clear hwd bb
      refine held_take (i := 0) (v := (.agg l0.toArray)) rfl (by kernel_rfl) (by kernel_rfl) (by kernel_rfl) (fun _ _ _ h => h) (yieldsIf_load_row (by rfl) 26 _ rfl g5 rfl 26 _ (0, 0) _ (fun w' hw' => hw') Tryd.underlying26 rfl (by show _ = some l0.length; rw [LN.out] <;> kernel_rfl)) hHeld ?_
      go_frame
      refine held_take (i := 1) (v := (.pointer (some ⟨r, 0, none⟩))) rfl (by kernel_rfl) (by kernel_rfl) (by kernel_rfl) (fun _ _ _ h => h) (Or.inl ⟨by rfl, fun w' _ => by kernel_rfl⟩) hHeld ?_
      go_frame
      refine wpAnyH_ready (rs := [2]) (by kernel_rfl) (by simp) (held_cons rfl (fun K hK => ?_) AllReadyH.nil)
      go_simp
      refine EA.mono ?_
      rintro e w' ⟨rfl, rfl⟩
      go_wp2_with fail
      refine hK.out _ _ hHeld (fun hHeld => ?_)
      clear hK K
      refine wpAnyH_ready (rs := [3]) (by kernel_rfl) (by simp) (held_cons rfl (fun K hK => ?_) AllReadyH.nil)
      rw [if_pos (by rfl)]
      refine wp_store_part 26 (.tmp 2) (.tmp 20) rfl g2 0 [] (hdL hdZ) [] l0 26 (.agg l0.toArray) rfl rfl rfl rfl (by rw [LN.out]; exact hdL_length hdZ_ok) (by simpa using FD.out) (by rw [LN.out] <;> kernel_rfl) ON.out ?_
      intro w5 q1 q2
      have F6 : Hid (w5.heap[g2]? = some (.cells l0.toArray 26 (0, 0))) := by show _ = _; simpa using q1
      have Q := Lib.hid (grownBy_trans (grownBy_of_below BD.out _) q2)
      have hS := row_far hHeld q2 (fun e => G25.out (Option.some.inj e))
      clear q1 q2 hHeld
      go_frame
      refine hK.out _ _ hS (fun hHeld => ?_)
      clear hK K hS
      refine held_take (i := 4) (v := (.nilIface)) rfl (by kernel_rfl) (by kernel_rfl) (by kernel_rfl) (fun _ _ _ h => h) (Or.inl ⟨by rfl, fun w' _ => by kernel_rfl⟩) hHeld ?_
      go_frame
      refine wpAnyH_done (by kernel_rfl) ?_ _
      clear hHeld
      go_wp2_with fail
      refine bodyPost_ret (results_row_tmp rfl _ _ g2 26 l0.toArray (0, 0) _ rfl F6.out Tryd.underlying26 rfl (by show _ = some l0.length; rw [LN.out] <;> kernel_rfl)) rfl ?_
      exact ⟨by rw [L0.out]; rfl, FIN.out w5 Q.out⟩
    · obtain ⟨rfl, rfl⟩ : t = noHd ∧ c = 2 := by
        have := HQ.out
        rw [if_neg (by simp), if_pos (by simpa using hb)] at this
        simpa using this
      obtain ⟨nb, hnb⟩ : ∃ nb, nb = b.length := ⟨_, rfl⟩
      have p0 : (0 : Int) < (nb : Int) := by have := List.length_pos_iff.2 hb; omega
      rw [← hnb] at LA
      clear hb hnb
      go_wp2_with fail
      refine EA.out.mono ?_
      rintro e w' ⟨rfl, rfl⟩
      clear EA
      go_wp2_with fail
      refine LA.out.mono ?_
      rintro e w' ⟨rfl, rfl⟩
      clear LA
      go_wp2_with fail
      refine wp_region_held_drew (S := (fun w' => w'.cell? ⟨0, 0, none⟩ = some (.iface 95 (.pointer (some (E 1)))))) (by kernel_rfl) ((HE.out.below B3.out).2.1) (fun hHeld => ?_)
      have bb := Below.drew (Below.refl w3.heap.size w3)
      generalize hwd : w3.drew = wd
      rw [hwd] at hHeld bb
      have BD := Lib.hid bb
      have FD := Lib.hid (row_below F3.out bb)
      clear hwd bb
      refine held_take (i := 0) (v := (.agg (hdL hdZ).toArray)) rfl (by kernel_rfl) (by kernel_rfl) (by kernel_rfl) (fun _ _ _ h => h) (Or.inl ⟨by rfl, fun w' _ => by kernel_rfl⟩) hHeld ?_
      go_frame
      refine held_take (i := 1) (v := (.iface 95 (.pointer (some (E 1))))) rfl (by kernel_rfl) (by kernel_rfl) (by kernel_rfl) (fun _ _ _ h => h) (yieldsIf_load_one (by rfl) 31 _ rfl 0 (0) rfl _ _ (fun w' hw' => hw') Tryd.underlying31 rfl) hHeld ?_
      go_frame
      refine wpAnyH_ready (rs := [2]) (by kernel_rfl) (by simp) (held_cons rfl (fun K hK => ?_) AllReadyH.nil)
      rw [if_pos (by rfl)]
      refine wp_store_part 26 (.tmp 2) (.tmp 18) rfl g2 0 [] (hdL hdZ) [] (hdL hdZ) 26 (.agg (hdL hdZ).toArray) rfl rfl rfl rfl rfl (by simpa using FD.out) (by kernel_rfl) (hdL_one' hdZ) ?_
      intro w5 q1 q2
      have F6 : Hid (w5.heap[g2]? = some (.cells (hdL hdZ).toArray 26 (0, 0))) := by show _ = _; simpa using q1
      have Q := Lib.hid (grownBy_trans (grownBy_of_below BD.out _) q2)
      have hS := ((HE.out.below (FIN.out w5 Q.out)).2.1)
      clear q1 q2 hHeld
      go_frame
      refine hK.out _ _ hS (fun hHeld => ?_)
      clear hK K hS
      refine held_take (i := 3) (v := (.iface 95 (.pointer (some (E 1))))) rfl (by kernel_rfl) (by kernel_rfl) (by kernel_rfl) (fun _ _ _ h => h) (Or.inl ⟨by rfl, fun w' _ => by kernel_rfl⟩) hHeld ?_
      go_frame
      refine wpAnyH_done (by kernel_rfl) ?_ _
      clear hHeld
      go_wp2_with fail
      refine bodyPost_ret (results_row_tmp rfl _ _ g2 26 (hdL hdZ).toArray (0, 0) _ rfl F6.out Tryd.underlying26 rfl (by kernel_rfl)) rfl ?_
      exact ⟨rfl, FIN.out w5 Q.out⟩
end Go.Proofs.YtlfpjfhpleociaaDoor.Sha
