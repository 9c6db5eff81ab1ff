/-
  The statement on locks, keys and places answers true. Conditions: the bytes lie where the slice says, digests of 32 bytes, the table is there.
-/
import Derived.Test.YthgcpelabiigpaaDoorSpFirst
import Derived.Test.YthgcpelabiigpaaDoorRefOpens
import Derived.Test.YthgcpelabiigpaaDoorRefPtLess
namespace Go.Proofs.YthgcpelabiigpaaDoor.Sha
open Go Go.RowKit

/-- In a quiet walk: a Bool held against itself. -/
theorem quiet_eql_self {C : World → Prop} {a : Act} {o : Oper} {K : Act → Prop} (x y : Operand) (r : TypeId) (ho : o.op = .binOp .eql 4 x y r) (b : Bool)
    (hx : a.eval x = .bool b) (hy : a.eval y = .bool b) (hk : K (a.put o.dst (.bool true))) : o.quiet Tryd.prog a C K :=
  quiet_bin .eql 4 x y r ho _ _ _ hx hy (fun w => by cases b <;> kernel_rfl) (fun w => by cases b <;> kernel_rfl) hk
/-- Three boxes of three types. -/
theorem boxes3 (w : World) (x y z : Array Value) (T U V : TypeId) :
    Below w.heap.size w (((w.alloc (.cells x T (0, 0))).alloc (.cells y U (0, 0))).alloc (.cells z V (0, 0)))
    ∧ (((w.alloc (.cells x T (0, 0))).alloc (.cells y U (0, 0))).alloc (.cells z V (0, 0))).heap[w.heap.size]? = some (.cells x T (0, 0))
    ∧ (((w.alloc (.cells x T (0, 0))).alloc (.cells y U (0, 0))).alloc (.cells z V (0, 0))).heap[w.heap.size + 1]? = some (.cells y U (0, 0))
    ∧ (((w.alloc (.cells x T (0, 0))).alloc (.cells y U (0, 0))).alloc (.cells z V (0, 0))).heap[w.heap.size + 2]? = some (.cells z V (0, 0)) := by
  have z1 : ((w.alloc (.cells x T (0, 0))).alloc (.cells y U (0, 0))).heap.size = w.heap.size + 2 := by simp
  have h3 := heap_alloc_new ((w.alloc (.cells x T (0, 0))).alloc (.cells y U (0, 0))) (.cells z V (0, 0))
  rw [z1] at h3
  refine ⟨(((Below.refl _ _).alloc (Nat.le_refl _) _).alloc (by simp) _).alloc (by simp; omega) _, ?_, ?_, h3⟩
  · rw [heap_alloc_old _ _ (by omega)]; exact heap_alloc2_old _ _ _
  · rw [heap_alloc_old _ _ (by omega)]; exact heap_alloc2_new _ _ _

set_option maxHeartbeats 4000000 in
set_option maxRecDepth 100000 in
theorem spsays_main (bs l la lb : List UInt8) (na nb : Nat) (sp : Option Addr) (n cap : Nat) (w : World) (hk : KTab w) (hs : SrcB w (.slice sp n cap) bs) (hn : n ≤ 100) (hl : l.length = 32) (ha : la.length = 32) (hb : lb.length = 32) :
    Calls Tryd.prog 3 #[.slice sp n cap, .agg (l.map bV).toArray, .agg (ptL la na).toArray, .agg (ptL lb nb).toArray] w fun e w' => e = .returned (.bool true) ∧ Below w.heap.size w w' := by
  have hnb := hs.le.1
  have HNB := Lib.hid hnb
  have HK := Lib.hid hk
  have HS := Lib.hid hs
  have HL := Lib.hid hl
  have HA := Lib.hid ha
  have HB := Lib.hid hb
  have HLEN : Hid (bs.length ≤ 576460752303423487) := by show _ ≤ _; omega
  have HN2 : Hid (n ≤ 35184372088832) := by show _ ≤ _; omega
  have hsz : ∀ (l : List UInt8) (n : Nat), l.length = 32 → (ptL l n).toArray.size = 33 := fun l n h => ptL_size l n h
  have HZ := Lib.hid hsz
  have hs32 : ∀ l : List UInt8, l.length = 32 → (l.map bV).toArray.size = 32 := fun l h => by simp [h]
  have HS32 := Lib.hid hs32
  obtain ⟨Z, hZ⟩ : ∃ Z : List UInt8, Z = List.replicate 32 0 := ⟨_, rfl⟩
  obtain ⟨M, hM⟩ : ∃ M : Nat, M = 4294967295 := ⟨_, rfl⟩
  have hZl : Z.length = 32 := by rw [hZ]; rfl
  have HZL := Lib.hid hZl
  have NP : Hid (∀ w, Calls Tryd.prog 16 #[] w fun e w' => e = .returned (.agg (ptL Z M).toArray) ∧ Below w.heap.size w w') := fun w => by rw [hZ, hM]; exact null_any w
  have NR : Hid (∀ w, Calls Tryd.prog 15 #[] w fun e w' => e = .returned (.agg (ptL Z M).toArray) ∧ Below w.heap.size w w') := fun w => by rw [hZ, hM]; exact rnull_any w
  have SP : Hid (∀ w, Calls Tryd.prog 14 #[.agg (ptL Z M).toArray, .agg (ptL Z M).toArray] w fun e w' => e = .returned (.bool true) ∧ Below w.heap.size w w') := fun w => samept_any Z Z M M hZl hZl true (by simp) w
  have SM : Hid (∀ w, Calls Tryd.prog 9 #[.agg ((sha bs).map bV).toArray, .agg ((sha bs).map bV).toArray] w fun e w' => e = .returned (.bool true) ∧ Below w.heap.size w w') := fun w => same_b _ _ (sha_length _) (sha_length _) true (by simp) w
  obtain ⟨bo, hbo⟩ : ∃ bo, bo = opensL bs l := ⟨_, rfl⟩
  obtain ⟨bn, hbn⟩ : ∃ bn, bn = (decide (la = List.replicate 32 0) && decide (na = 4294967295)) := ⟨_, rfl⟩
  obtain ⟨bl, hbl⟩ : ∃ bl, bl = lessPt la na lb nb := ⟨_, rfl⟩
  obtain ⟨bk, hbk, hd⟩ : ∃ bk, bk = opensL bs (sha bs) ∧ decide ((n : Int) ≤ 80) = bk := ⟨_, rfl, by
    rw [opensL, ← hnb]
    by_cases h : n ≤ 80
    · rw [decide_eq_true h, decide_eq_true (show (n : Int) ≤ 80 by omega)]; simp
    · rw [decide_eq_false h, decide_eq_false (show ¬ (n : Int) ≤ 80 by omega)]; rfl⟩
  have HBO := Lib.hid hbo
  have HBN := Lib.hid hbn
  have HBN2 : Hid (bn = (decide (la = Z) && decide (na = M))) := by show _ = _; rw [hbn, hZ, hM]
  have HBL := Lib.hid hbl
  have HBK := Lib.hid hbk
  have HD := Lib.hid hd
  have h100 : ¬ (100 : Int) < n := by omega
  clear hk hs hn hl ha hb hsz hs32 hZ hM hZl hbo hbn hbl hbk hd hnb
  go_enter Tryd.func3, Tryd.ntmps3
  go_upto_region 1 with fail
  obtain ⟨b1, f1, f2, f3⟩ := boxes3 w (l.map bV).toArray (ptL la na).toArray (ptL lb nb).toArray 24 27 27
  generalize hw1 : World.alloc _ _ = w1
  rw [hw1] at b1 f1 f2 f3
  have B := Lib.hid b1
  have FL := Lib.hid f1
  have FA := Lib.hid f2
  have FB := Lib.hid f3
  clear hw1 b1 f1 f2 f3
  go_upto_region 6 with (go_at_call 7; refine (sfirst_any _ (HK.out.below B.out)).mono ?_; rintro e w2 ⟨rfl, hb2⟩; have FL := Lib.hid (row_below FL.out hb2); have FA := Lib.hid (row_below FA.out hb2); have FB := Lib.hid (row_below FB.out hb2); have B := Lib.hid (B.out.trans (hb2.mono B.out.size)); clear hb2)
  go_upto_region 7 with (first | (go_at_call 8; refine (ref_any bs _ _ _ _ (HS.out.below B.out) HN2.out).mono ?_; rintro e w3 ⟨rfl, hb3⟩; have B3 := Lib.hid hb3; clear hb3) | ((with_reducible show wpList _ _ _ _ _ _); refine wpList_store_row rfl 24 (.tmp 10) (.tmp 19) rfl w3.heap.size ((sha bs).map bV).toArray rfl rfl 24 _ (heap_alloc_new _ _) (by rw [HS32.out _ (sha_length _)]; kernel_rfl) (by rw [HS32.out _ (sha_length _)]; rfl) (bV_one _) ?_; go_frame))
  obtain ⟨_, g2, g3, g4⟩ := fill_setup B3.out (List.replicate 32 (bV 0)).toArray ((sha bs).map bV).toArray 24
  have g5 : Below w2.heap.size w2 (World.setRow (w3.alloc (.cells (List.replicate 32 (bV 0)).toArray 24)) w3.heap.size ((sha bs).map bV).toArray) := B3.out.trans (g4.mono B3.out.size)
  obtain ⟨gx, hgx⟩ : ∃ gx, gx = w3.heap.size := ⟨_, rfl⟩
  rw [← hgx] at g2 g5 ⊢
  generalize hw4 : World.setRow _ _ _ = w4
  have e4 : World.setRow (w3.alloc (.cells (List.replicate 32 (bV 0)).toArray 24)) gx ((sha bs).map bV).toArray = w4 := hw4
  rw [e4] at g2 g5
  have FX := Lib.hid g2
  have FL := Lib.hid (row_below FL.out g5)
  have FA := Lib.hid (row_below FA.out g5)
  have FB := Lib.hid (row_below FB.out g5)
  have B := Lib.hid (B.out.trans (g5.mono B.out.size))
  clear hw4 e4 g2 g3 g4 g5 hgx B3
  cases bk
  all_goals
    have hd := HD.out
    refine wp_region_below (by kernel_rfl) (by kernel_rfl) w4 (Below.refl _ _) ?_
    repeat (first | (go_big_quiet_want; refine quiet_load_row 24 (.tmp 10) rfl gx rfl 24 ((sha bs).map bV).toArray (0, 0) _ (fun w' hw' => row_below FX.out hw') Tryd.underlying24 rfl (by rw [HS32.out _ (sha_length _)]; kernel_rfl) ?_; go_frame; go_big_quiet_on) | (go_big_quiet_want; refine quiet_load_row 24 (.tmp 5) rfl w.heap.size rfl 24 (l.map bV).toArray (0, 0) _ (fun w' hw' => row_below FL.out hw') Tryd.underlying24 rfl (by rw [HS32.out _ HL.out]; kernel_rfl) ?_; go_frame; go_big_quiet_on) | (go_big_quiet_want; refine quiet_load_row 27 (.tmp 6) rfl (w.heap.size + 1) rfl 27 (ptL la na).toArray (0, 0) _ (fun w' hw' => row_below FA.out hw') Tryd.underlying27 rfl (by rw [HZ.out _ _ HA.out]; kernel_rfl) ?_; go_frame; go_big_quiet_on) | (go_big_quiet_want; refine quiet_load_row 27 (.tmp 7) rfl (w.heap.size + 2) rfl 27 (ptL lb nb).toArray (0, 0) _ (fun w' hw' => row_below FB.out hw') Tryd.underlying27 rfl (by rw [HZ.out _ _ HB.out]; kernel_rfl) ?_; go_frame; go_big_quiet_on) | (go_big_quiet_want; refine quiet_eql_self (.tmp 30) (.tmp 33) _ rfl bo rfl rfl ?_; go_frame; go_big_quiet_on) | (go_big_quiet_want; refine quiet_eql_self (.tmp 47) (.tmp 50) _ rfl bn rfl rfl ?_; go_frame; go_big_quiet_on) | (go_big_quiet_want; refine quiet_eql_self (.tmp 61) (.tmp 64) _ rfl bl rfl rfl ?_; go_frame; go_big_quiet_on) | go_big_quiet_step ((intro hw'; first | with_reducible exact cls hw' (lock_any bs _ _ ((HK.out.below B.out).below hw') ((HS.out.below B.out).below hw') HLEN.out) | with_reducible exact cls hw' (SM.out _) | with_reducible exact cls hw' (opens_any bs l _ _ ((HK.out.below B.out).below hw') ((HS.out.below B.out).below hw') HLEN.out HL.out bo HBO.out) | with_reducible exact cls hw' (opens_any bs (sha bs) _ _ ((HK.out.below B.out).below hw') ((HS.out.below B.out).below hw') HLEN.out (sha_length _) _ HBK.out) | with_reducible exact cls hw' (ropens_any bs l _ _ _ _ ((HS.out.below B.out).below hw') HN2.out HL.out bo HBO.out) | with_reducible exact cls hw' (isnull_any la na HA.out bn HBN.out _) | with_reducible exact cls hw' (NR.out _) | with_reducible exact cls hw' (NP.out _) | with_reducible exact cls hw' (samept_any la Z na M HA.out HZL.out bn HBN2.out _) | with_reducible exact cls hw' (SP.out _) | with_reducible exact cls hw' (lesspt_any la lb na nb HA.out HB.out bl HBL.out _) | with_reducible exact cls hw' (rlesspt_any la lb na nb HA.out HB.out bl HBL.out _) | rfl)))
    refine wpQuiet_nil ?_
    intro w8 hw8
    have HW8 := Lib.hid (B.out.trans (hw8.mono B.out.size))
    clear hw8
    go_wp2_with fail
    go_ret
    exact ⟨rfl, HW8.out⟩

set_option maxRecDepth 100000 in
theorem spsays_long (sp : Option Addr) (n cap : Nat) (l la lb : List UInt8) (na nb : Nat) (w : World) (hk : KTab w) (h : 100 < n) :
    Calls Tryd.prog 3 #[.slice sp n cap, .agg (l.map bV).toArray, .agg (ptL la na).toArray, .agg (ptL lb nb).toArray] w fun e w' => e = .returned (.bool true) ∧ Below w.heap.size w w' := by
  have HK := Lib.hid hk
  have h100 : (100 : Int) < n := by omega
  clear hk h
  go_enter Tryd.func3, Tryd.ntmps3
  go_upto_region 1 with fail
  obtain ⟨b1, f1, f2, f3⟩ := boxes3 w (l.map bV).toArray (ptL la na).toArray (ptL lb nb).toArray 24 27 27
  generalize hw1 : World.alloc _ _ = w1
  rw [hw1] at b1
  have B := Lib.hid b1
  clear hw1 b1 f1 f2 f3
  go_wp2_with (go_at_call 7; refine (sfirst_any _ (HK.out.below B.out)).mono ?_; rintro e w2 ⟨rfl, hb2⟩; have B := Lib.hid (B.out.trans (hb2.mono B.out.size)); clear hb2)
  go_ret
  exact ⟨rfl, B.out⟩
end Go.Proofs.YthgcpelabiigpaaDoor.Sha
