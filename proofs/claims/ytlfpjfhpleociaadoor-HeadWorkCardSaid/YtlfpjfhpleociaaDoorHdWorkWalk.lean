/-
  The statement on a header's work answers true. Conditions: a header of digests of 32 bytes, the error is there.
-/
import Derived.Test.YtlfpjfhpleociaaDoorHdCheck
namespace Go.Proofs.YtlfpjfhpleociaaDoor.Sha
open Go Go.RowKit
set_option maxHeartbeats 1000000 in
set_option maxRecDepth 100000 in
theorem headwork_main (h : THd) (hh : HdOk h) (n : Nat) (hn : n ≤ 4294967295) (w : World) (x : Addr) (hx : w.cell? ⟨1, 0, none⟩ = some (.iface 95 (.pointer (some x)))) :
    Calls Tryd.prog 4 #[.agg (hdL h).toArray, .int .u32 (n : Int)] w fun e w' => e = .returned (.bool true) ∧ Below w.heap.size w w' := by
  have HH := Lib.hid hh
  have HX := Lib.hid hx
  obtain ⟨k, hk⟩ : ∃ k, k = n % 3 := ⟨_, rfl⟩
  have hk3 : k < 3 := by omega
  have m1 : (n : Int).tmod 3 = (k : Int) := by rw [Int.tmod_eq_emod_of_nonneg (by omega)]; omega
  have H1 : Hid (HdOk { h with work := k }) := ⟨hh.1, hh.2.1, hh.2.2.1, hh.2.2.2.1, by show k ≤ _; omega, hh.2.2.2.2.2⟩
  obtain ⟨q, hq⟩ : ∃ q, q = 16777216 + k - 1 := ⟨_, rfl⟩
  have H2 : Hid (HdOk { h with work := q }) := ⟨hh.1, hh.2.1, hh.2.2.1, hh.2.2.2.1, by show q ≤ _; omega, hh.2.2.2.2.2⟩
  have Q1 : Hid ((q : Int) = 16777216 + (k : Int) - 1) := by show _ = _; omega
  have KB := Lib.hid hk3
  have QB : Hid (q = 16777216 + k - 1) := hq
  clear hk hq hh hx
  obtain ⟨cs, hcs⟩ : ∃ cs, cs = hdL h := ⟨_, rfl⟩
  rw [← hcs]
  have CS := Lib.hid hcs
  clear hcs
  go_enter Tryd.func4, Tryd.ntmps4
  go_upto_region 1 with fail
  rw [CS.out]
  obtain ⟨B, F⟩ := hd_box w h
  obtain ⟨g, hg⟩ : ∃ g, g = w.heap.size := ⟨_, rfl⟩
  generalize hw1 : World.alloc w _ = w1
  rw [hw1] at B F
  have G0 : Hid (w.heap.size ≤ g) := by show _ ≤ _; omega
  rw [← hg] at F ⊢
  have B := Lib.hid B
  have F := Lib.hid F
  clear hw1 hg CS
  go_wp2_with fail
  refine (first5 w1).mono ?_
  rintro e w2 ⟨rfl, hb2⟩
  have F := Lib.hid (F.out.below hb2)
  have B := Lib.hid (B.out.trans (hb2.mono B.out.size))
  clear hb2
  go_upto_region 5 with ((with_reducible show wpList _ _ _ _ _ _); refine st_work (g := g) (h := h) rfl (.tmp 13) (.tmp 12) rfl rfl k rfl HH.out F.out ?_; intro w3 q1 q2; have F1 := Lib.hid q1; have B1 := Lib.hid (B.out.grown q2 B.out.size (fun k hk => by cases hk; exact G0.out)); clear q1 q2; go_frame)
  obtain ⟨l1, hl1⟩ : ∃ l, l = hdL { h with work := k } := ⟨_, rfl⟩
  have LN1 : Hid (l1.length = 68) := by show _ = _; rw [hl1]; exact hdL_length H1.out
  have R1 : Hid (w3.heap[g]? = some (.cells l1.toArray 26 (0, 0))) := by show _ = _; rw [hl1]; exact F1.out.row
  have RX : Hid (∀ w', Below w.heap.size w w' → w'.cell? ⟨1, 0, none⟩ = some (.iface 95 (.pointer (some x)))) := fun w' hw' => by
    rw [hw'.cell (World.block_lt_of_cell? w _ HX.out)]
    exact HX.out
  obtain ⟨v1, hv1⟩ : ∃ v, v = if workB k then Value.iface 95 (.pointer (some x)) else .nilIface := ⟨_, rfl⟩
  have CK1 : Hid (∀ w', Below w.heap.size w w' → Calls Tryd.prog 13 #[.agg l1.toArray] w' fun e w'' => e = .returned v1 ∧ Below w'.heap.size w' w'') := fun w' hw' => by rw [hl1]; exact check_hd _ H1.out w' x (RX.out w' hw') v1 hv1
  obtain ⟨l2, hl2⟩ : ∃ l, l = hdL { h with work := q } := ⟨_, rfl⟩
  have LN2 : Hid (l2.length = 68) := by show _ = _; rw [hl2]; exact hdL_length H2.out
  obtain ⟨v2, hv2⟩ : ∃ v, v = if workB q then Value.iface 95 (.pointer (some x)) else .nilIface := ⟨_, rfl⟩
  have CK2 : Hid (∀ w', Below w.heap.size w w' → Calls Tryd.prog 13 #[.agg l2.toArray] w' fun e w'' => e = .returned v2 ∧ Below w'.heap.size w' w'') := fun w' hw' => by rw [hl2]; exact check_hd _ H2.out w' x (RX.out w' hw') v2 hv2
  have L2 := Lib.hid hl2
  have V1 := Lib.hid hv1
  have V2 := Lib.hid hv2
  clear hl1 hl2 hv1 hv2 F B
  go_wp2_with ((with_reducible show wpList _ _ _ _ _ _); refine wpList_load_row rfl 26 (.tmp 2) rfl g rfl 26 l1.toArray (0, 0) _ R1.out Tryd.underlying26 rfl (by show _ = some l1.length; rw [LN1.out] <;> kernel_rfl) ?_; go_frame)
  refine (CK1.out w3 B1.out).mono ?_
  rintro e w4 ⟨rfl, hb4⟩
  have F4 := Lib.hid (F1.out.below hb4)
  have B4 := Lib.hid (B1.out.trans (hb4.mono B1.out.size))
  clear hb4 R1 F1 B1 CK1
  go_upto_region 7 with ((with_reducible show wpList _ _ _ _ _ _); refine st_work (g := g) (h := { h with work := k }) rfl (.tmp 20) (.tmp 19) rfl rfl q (congrArg (Value.int .u32) Q1.out.symm) H1.out F4.out ?_; intro w5 q1 q2; have F5 := Lib.hid q1; have B5 := Lib.hid (B4.out.grown q2 B4.out.size (fun k hk => by cases hk; exact G0.out)); clear q1 q2; go_frame)
  have R5 : Hid (w5.heap[g]? = some (.cells l2.toArray 26 (0, 0))) := by show _ = _; rw [L2.out]; exact F5.out.row
  go_wp2_with ((with_reducible show wpList _ _ _ _ _ _); refine wpList_load_row rfl 26 (.tmp 2) rfl g rfl 26 l2.toArray (0, 0) _ R5.out Tryd.underlying26 rfl (by show _ = some l2.length; rw [LN2.out] <;> kernel_rfl) ?_; go_frame)
  refine (CK2.out w5 B5.out).mono ?_
  rintro e w6 ⟨rfl, hb6⟩
  have B6 := Lib.hid (B5.out.trans (hb6.mono B5.out.size))
  clear hb6 R5 F5 B5 CK2
  have kb := KB.out
  by_cases k0 : k = 0
  · obtain rfl : v1 = .iface 95 (.pointer (some x)) := by rw [V1.out, k0]; rfl
    obtain rfl : v2 = .nilIface := by rw [V2.out, QB.out, k0]; rfl
    have t1 : ¬ (0 : Int) < (k : Int) := by omega
    have t2 : (k : Int) < 2 := by omega
    clear k0 kb
    go_wp2_with fail
    go_ret
    exact ⟨rfl, B6.out⟩
  by_cases k1 : k = 1
  · obtain rfl : v1 = .nilIface := by rw [V1.out, k1]; rfl
    obtain rfl : v2 = .nilIface := by rw [V2.out, QB.out, k1]; rfl
    have t1 : (0 : Int) < (k : Int) := by omega
    have t2 : (k : Int) < 2 := by omega
    clear k0 k1 kb
    go_wp2_with fail
    go_ret
    exact ⟨rfl, B6.out⟩
  have k2 : k = 2 := by omega
  obtain rfl : v1 = .nilIface := by rw [V1.out, k2]; rfl
  obtain rfl : v2 = .iface 95 (.pointer (some x)) := by rw [V2.out, QB.out, k2]; rfl
  have t1 : (0 : Int) < (k : Int) := by omega
  have t2 : decide ((k : Int) < 2) = false := by rw [decide_eq_false_iff_not]; omega
  clear k0 k1 k2 kb
  go_wp2_with fail
  go_ret
  exact ⟨rfl, B6.out⟩
end Go.Proofs.YtlfpjfhpleociaaDoor.Sha
