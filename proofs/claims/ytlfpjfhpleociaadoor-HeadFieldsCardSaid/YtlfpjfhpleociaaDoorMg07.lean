/-
  The statement on where a header's parts stand answers true. Conditions: headers of digests of 32 bytes, the table is there.
-/
import Derived.Great.BuildSlice
import Derived.Deep.DeepCutAuto
import Derived.Lib.Bytealg
import Derived.Lib.BytesEntry
import Derived.Deep.CutBlock
import Derived.Deep.CutRange
import Derived.Test.YtlfpjfhpleociaaDoorMg05
import Derived.Test.YtlfpjfhpleociaaDoorMg06
import Derived.Test.YtlfpjfhpleociaaDoorMg02
import Derived.Test.YtlfpjfhpleociaaDoorMg01
import Derived.Test.YtlfpjfhpleociaaDoorMg03
import Derived.Test.YtlfpjfhpleociaaDoorMg04
namespace Go.Proofs.YtlfpjfhpleociaaDoor.Sha
open Go Go.RowKit
theorem quiet_cut_l {P : Program} {C : World → Prop} {a : Act} {o : Oper} {K : Act → Prop} (t : TypeId) (x lo : Operand) (ho : o.op = .slice t x (some lo) none none) (e : TypeId) (hu : P.underlying t = some (.slice e)) (hsz : (P.info? e).map (·.size) = some 1)
    (sp : Option Addr) (n cap l : Nat) (hx : a.eval x = .slice sp n cap) (hl : a.eval lo = .int .i64 l) (h1 : l ≤ n) (v : Value) (hv : sliced sp l n cap 1 = v) (hk : K (a.put o.dst v)) : o.quiet P a C K := by
  refine quiet_run v (fun w => ?_) hk
  simp [execOp, ho, hx, hl, run_cut_l (w := w) t e sp n cap l hu hsz h1, Result.andThen, hv]
theorem src_at {w : World} {g n c j : Nat} {bs : List UInt8} (h : SrcB w (.slice (some ⟨g, 0, none⟩) n c) bs) (hj : j < bs.length) : w.cell? ⟨g, j, none⟩ = some (.int .u8 (bv (bs.getD j 0))) := by
  rcases h with ⟨sp, cap, hv, rfl⟩ | ⟨h0, bb, off, cap, hv, _, hc⟩
  · simp at hj
  · simp only [Value.slice.injEq, Option.some.injEq, Addr.mk.injEq] at hv
    obtain ⟨⟨rfl, rfl, _⟩, _, _⟩ := hv
    have := hc j hj
    rwa [Nat.zero_add] at this
/-- In a quiet walk: a Bool held against itself. -/
theorem quiet_neq_self {C : World → Prop} {a : Act} {o : Oper} {K : Act → Prop} (x y : Operand) (r : TypeId) (ho : o.op = .binOp .neq 4 x y r) (b : Bool)
    (hx : a.eval x = .bool b) (hy : a.eval y = .bool b) (hk : K (a.put o.dst (.bool false))) : o.quiet Tryd.prog a C K :=
  quiet_bin .neq 4 x y r ho _ _ _ hx hy (fun w => by cases b <;> kernel_rfl) (fun w => by cases b <;> kernel_rfl) hk
/-- The loop's head: nothing that was there turned. -/
def HfInv (W : World) (vi : Value) (wr : World) : Prop := ∃ k : Nat, k ≤ 6 ∧ vi = .int .i64 k ∧ Below W.heap.size W wr
set_option maxHeartbeats 4000000 in
set_option maxRecDepth 100000 in
theorem headfields_main (h x : THd) (hh : HdOk h) (hx : HdOk x) (w : World) (hk : KTab w) :
    Calls Tryd.prog 5 #[.agg (hdL h).toArray, .agg (hdL x).toArray] w fun e w' => e = .returned (.bool true) ∧ Below w.heap.size w w' := by
  have HH := Lib.hid hh
  have HX := Lib.hid hx
  have HK := Lib.hid hk
  clear hh hx hk
  obtain ⟨l0, hl0⟩ : ∃ l, l = hdL h := ⟨_, rfl⟩
  have LN0 : Hid (l0.length = 68) := by show _ = _; rw [hl0]; exact hdL_length HH.out
  have ON0 : Hid (∀ v ∈ l0, v.oneCell' = true) := by show ∀ v ∈ l0, _; rw [hl0]; exact hdL_one' h
  obtain ⟨lx, hlx⟩ : ∃ l, l = hdL x := ⟨_, rfl⟩
  have HL0 := Lib.hid hl0
  have HLX := Lib.hid hlx
  have BY : Hid (∀ W, Calls Tryd.prog 7 #[.agg l0.toArray] W fun e w' => ∃ v, e = .returned v ∧ CopyB W w' v (hdB h)) := fun W => by rw [hl0]; exact hdbytes_any h HH.out W
  have L80 : Hid ((hdB h).length = 80) := hdB_length HH.out
  rw [← hl0, ← hlx]
  clear hl0 hlx
  go_enter Tryd.func5, Tryd.ntmps5
  go_upto_region 1 with fail
  rw [HL0.out, HLX.out]
  obtain ⟨B, F, X⟩ := hd_boxes w h x
  rw [← HL0.out, ← HLX.out] at B F X ⊢
  obtain ⟨g2, hg2⟩ : ∃ g, g = w.heap.size := ⟨_, rfl⟩
  obtain ⟨g3, hg3⟩ : ∃ g, g = w.heap.size + 1 := ⟨_, rfl⟩
  generalize hw1 : World.alloc (World.alloc w _) _ = w1
  rw [hw1] at B F X
  rw [← hg2] at F
  rw [← hg3] at X
  rw [← hg3, ← hg2]
  have B := Lib.hid B
  have F := Lib.hid F
  have X := Lib.hid X
  clear hw1 hg2 hg3
  go_wp2_with fail
  refine (first5 w1).mono ?_
  rintro e w2 ⟨rfl, hb⟩
  have F := Lib.hid (F.out.below hb)
  have X := Lib.hid (X.out.below hb)
  have B := Lib.hid (B.out.trans (hb.mono B.out.size))
  clear hb
  have R0 : Hid (w2.heap[g2]? = some (.cells l0.toArray 26 (0, 0))) := by show _ = _; rw [HL0.out]; exact F.out.row
  go_wp2_with ((with_reducible show wpList _ _ _ _ _ _); refine wpList_load_row rfl 26 (.tmp 2) rfl g2 rfl 26 l0.toArray (0, 0) _ R0.out Tryd.underlying26 rfl (by show _ = some l0.length; rw [LN0.out] <;> kernel_rfl) ?_; go_frame)
  refine (BY.out w2).mono ?_
  rintro e w3 ⟨v3, rfl, hc3⟩
  have ho3 := hc3.1
  rw [L80.out] at ho3
  obtain ⟨gb, cb, rfl, hgb, hcb⟩ := own_shape ho3 (by omega)
  have C := Lib.hid hc3
  have F := Lib.hid (F.out.below hc3.2)
  have X := Lib.hid (X.out.below hc3.2)
  have B := Lib.hid (B.out.trans (hc3.2.mono B.out.size))
  clear ho3 hc3 hgb R0
  go_upto_region 9 with fail
  have GF0 := row_below (heap_alloc_new w3 (.cells #[.int .i64 0, .int .i64 4, .int .i64 36, .int .i64 68, .int .i64 72, .int .i64 76] 3 (0, 0))) ((Below.refl _ _).alloc (Nat.le_refl _) (.cells #[.int .i64 4, .int .i64 36, .int .i64 68, .int .i64 72, .int .i64 76, .int .i64 80] 3 (0, 0)))
  have GT0 := heap_alloc_new (w3.alloc (.cells #[.int .i64 0, .int .i64 4, .int .i64 36, .int .i64 68, .int .i64 72, .int .i64 76] 3 (0, 0))) (.cells #[.int .i64 4, .int .i64 36, .int .i64 68, .int .i64 72, .int .i64 76, .int .i64 80] 3 (0, 0))
  have bb := ((Below.refl w3.heap.size w3).alloc (Nat.le_refl _) (.cells #[.int .i64 0, .int .i64 4, .int .i64 36, .int .i64 68, .int .i64 72, .int .i64 76] 3 (0, 0))).alloc (by simp) (.cells #[.int .i64 4, .int .i64 36, .int .i64 68, .int .i64 72, .int .i64 76, .int .i64 80] 3 (0, 0))
  rw [World.size_alloc] at GT0
  obtain ⟨gf, hgf⟩ : ∃ g, g = w3.heap.size := ⟨_, rfl⟩
  obtain ⟨gt, hgt⟩ : ∃ g, g = w3.heap.size + 1 := ⟨_, rfl⟩
  generalize hw4 : World.alloc (World.alloc w3 _) _ = w4
  have hw4' : (w3.alloc (.cells #[.int .i64 0, .int .i64 4, .int .i64 36, .int .i64 68, .int .i64 72, .int .i64 76] 3 (0, 0))).alloc (.cells #[.int .i64 4, .int .i64 36, .int .i64 68, .int .i64 72, .int .i64 76, .int .i64 80] 3 (0, 0)) = w4 := hw4
  rw [hw4'] at GF0 GT0 bb
  rw [← hgf] at GF0
  rw [← hgt] at GT0
  rw [← hgt, ← hgf]
  have GF := Lib.hid GF0
  have GT := Lib.hid GT0
  have F := Lib.hid (F.out.below bb)
  have X := Lib.hid (X.out.below bb)
  have C := Lib.hid (C.out.keep bb)
  have B := Lib.hid (B.out.trans (bb.mono B.out.size))
  clear hw4 hw4' GF0 GT0 bb hgf hgt
  have F4 := F
  have S4 := Lib.hid C.out.src
  have GF4 := GF
  have GT4 := GT
  have N2 : Hid (g2 < w4.heap.size) := F.out.lt
  have BW4 := B
  go_wp2_with fail
  go_loopw [9] (fun vi wr => HfInv w4 vi wr) (fun i _ => 6 - (intOf i).toNat)
  case atStart => exact ⟨0, by omega, rfl, Below.refl _ _⟩
  case round =>
    obtain ⟨k, hk, rfl, hB⟩ := hrel
    have F := Lib.hid (F.out.below hB)
    have X := Lib.hid (X.out.below hB)
    have C := Lib.hid (C.out.keep hB)
    have GF := Lib.hid (row_below GF.out hB)
    have GT := Lib.hid (row_below GT.out hB)
    have B4 := Lib.hid hB
    have B := Lib.hid (B.out.trans (hB.mono B.out.size))
    clear hB
    by_cases hlt : k < 6
    · have p0 : 0 ≤ (k : Int) := by omega
      have q0 : (k : Int) < 6 := by omega
      have R0 : Hid (wr.heap[g2]? = some (.cells l0.toArray 26 (0, 0))) := by show _ = _; rw [HL0.out]; exact F.out.row
      go_upto_region 13 with (first | ((with_reducible show wpList _ _ _ _ _ _); refine wpList_load_row rfl 26 (.tmp 2) rfl g2 rfl 26 l0.toArray (0, 0) _ R0.out Tryd.underlying26 rfl (by show _ = some l0.length; rw [LN0.out] <;> kernel_rfl) ?_; go_frame) | ((with_reducible show wpList _ _ _ _ _ _); refine wpList_store_row rfl 26 (.tmp 10) (.tmp 26) rfl wr.heap.size l0.toArray rfl rfl 26 _ (heap_alloc_new _ _) (by show _ = some l0.length; rw [LN0.out] <;> kernel_rfl) (by show _ = l0.length; rw [LN0.out] <;> rfl) (all_oneCell_toArray ON0.out) ?_; go_frame))
      obtain ⟨_, f2, f3, f4⟩ := fill_setup (Below.refl wr.heap.size wr) Tryd.zeroCells26 l0.toArray 26
      obtain ⟨gc, hg⟩ : ∃ gc, gc = wr.heap.size := ⟨_, rfl⟩
      have GCS : Hid (w4.heap.size ≤ gc) := by show _ ≤ _; rw [hg]; exact B4.out.size
      generalize hw5 : World.setRow _ _ _ = w5
      rw [hw5] at f2 f3 f4
      rw [← hg] at f2 ⊢
      rw [HL0.out] at f2
      have G : HdBox w5 gc h := ⟨f2⟩
      have G := Lib.hid G
      have F := Lib.hid (F.out.below f4)
      have X := Lib.hid (X.out.below f4)
      have C := Lib.hid (C.out.keep f4)
      have GF := Lib.hid (row_below GF.out f4)
      have GT := Lib.hid (row_below GT.out f4)
      have B4 := Lib.hid (B4.out.trans (f4.mono B4.out.size))
      have B := Lib.hid (B.out.trans (f4.mono B.out.size))
      clear hw5 f2 f3 f4 hg R0
      go_upto_block 2 with fail
      go_cut [] from 28 to 55 (fun wc => HdBox wc gc (mixH h x k) ∧ w5.grownBy wc (some gc))
      case first =>
        by_cases k0 : k = 0
        · have e0 : ((k : Int) == 0) = true := by rw [beq_iff_eq]; omega
          have HKJ : Hid (mixH h x k = { h with ver := x.ver }) := by show _ = _; unfold mixH;  rw [if_pos k0]
          clear k0
          obtain ⟨n, hn⟩ : ∃ n, n = x.ver := ⟨_, rfl⟩
          have cx : w5.cell? ⟨g3, 0, none⟩ = some (.int .u32 (n : Int)) := by rw [hn]; exact (X.out.cells HX.out).1
          have HN := Lib.hid hn
          clear hn
          go_wp2_with ((with_reducible show wpList _ _ _ _ _ _); refine st_ver (g := gc) (h := h) rfl (.tmp 35) (.tmp 34) rfl rfl n rfl HH.out G.out ?_; intro w6 q1 q2; have G6 := Lib.hid q1; have Q6 := Lib.hid q2; clear q1 q2; go_frame)
          go_meet
          case rel => exact ⟨by rw [HKJ.out, ← HN.out]; exact G6.out, Q6.out⟩
        by_cases k1 : k = 1
        · have e0 : ((k : Int) == 0) = false := by rw [beq_eq_false_iff_ne]; omega
          have e1 : ((k : Int) == 1) = true := by rw [beq_iff_eq]; omega
          have HKJ : Hid (mixH h x k = { h with prev := x.prev }) := by show _ = _; unfold mixH; rw [if_neg k0]; rw [if_pos k1]
          clear k0 k1
          have LXF : Hid ((x.prev.map bV).length = 32) := by show _ = _; rw [List.length_map]; exact HX.out.2.1
          go_wp2_with (first | ((with_reducible show wpList _ _ _ _ _ _); refine wpList_load_mid rfl 24 (.tmp 38) rfl g3 1 rfl (x.prev.map bV) _ (X.out.prev) Tryd.underlying24 rfl (by rw [LXF.out]; kernel_rfl) ?_; go_frame) | ((with_reducible show wpList _ _ _ _ _ _); refine st_prev (g := gc) (h := h) rfl (.tmp 40) (.tmp 39) rfl rfl x.prev (by have := LXF.out; simpa using this) rfl HH.out G.out ?_; intro w6 q1 q2; have G6 := Lib.hid q1; have Q6 := Lib.hid q2; clear q1 q2; go_frame))
          go_meet
          case rel => exact ⟨by rw [HKJ.out]; exact G6.out, Q6.out⟩
        by_cases k2 : k = 2
        · have e0 : ((k : Int) == 0) = false := by rw [beq_eq_false_iff_ne]; omega
          have e1 : ((k : Int) == 1) = false := by rw [beq_eq_false_iff_ne]; omega
          have e2 : ((k : Int) == 2) = true := by rw [beq_iff_eq]; omega
          have HKJ : Hid (mixH h x k = { h with root := x.root }) := by show _ = _; unfold mixH; rw [if_neg k0]; rw [if_neg k1]; rw [if_pos k2]
          clear k0 k1 k2
          have LXF : Hid ((x.root.map bV).length = 32) := by show _ = _; rw [List.length_map]; exact HX.out.2.2.1
          go_wp2_with (first | ((with_reducible show wpList _ _ _ _ _ _); refine wpList_load_mid rfl 24 (.tmp 43) rfl g3 33 rfl (x.root.map bV) _ (X.out.root HX.out) Tryd.underlying24 rfl (by rw [LXF.out]; kernel_rfl) ?_; go_frame) | ((with_reducible show wpList _ _ _ _ _ _); refine st_root (g := gc) (h := h) rfl (.tmp 45) (.tmp 44) rfl rfl x.root (by have := LXF.out; simpa using this) rfl HH.out G.out ?_; intro w6 q1 q2; have G6 := Lib.hid q1; have Q6 := Lib.hid q2; clear q1 q2; go_frame))
          go_meet
          case rel => exact ⟨by rw [HKJ.out]; exact G6.out, Q6.out⟩
        by_cases k3 : k = 3
        · have e0 : ((k : Int) == 0) = false := by rw [beq_eq_false_iff_ne]; omega
          have e1 : ((k : Int) == 1) = false := by rw [beq_eq_false_iff_ne]; omega
          have e2 : ((k : Int) == 2) = false := by rw [beq_eq_false_iff_ne]; omega
          have e3 : ((k : Int) == 3) = true := by rw [beq_iff_eq]; omega
          have HKJ : Hid (mixH h x k = { h with time := x.time }) := by show _ = _; unfold mixH; rw [if_neg k0]; rw [if_neg k1]; rw [if_neg k2]; rw [if_pos k3]
          clear k0 k1 k2 k3
          obtain ⟨n, hn⟩ : ∃ n, n = x.time := ⟨_, rfl⟩
          have cx : w5.cell? ⟨g3, 65, none⟩ = some (.int .u32 (n : Int)) := by rw [hn]; exact (X.out.cells HX.out).2.1
          have HN := Lib.hid hn
          clear hn
          go_wp2_with ((with_reducible show wpList _ _ _ _ _ _); refine st_time (g := gc) (h := h) rfl (.tmp 50) (.tmp 49) rfl rfl n rfl HH.out G.out ?_; intro w6 q1 q2; have G6 := Lib.hid q1; have Q6 := Lib.hid q2; clear q1 q2; go_frame)
          go_meet
          case rel => exact ⟨by rw [HKJ.out, ← HN.out]; exact G6.out, Q6.out⟩
        by_cases k4 : k = 4
        · have e0 : ((k : Int) == 0) = false := by rw [beq_eq_false_iff_ne]; omega
          have e1 : ((k : Int) == 1) = false := by rw [beq_eq_false_iff_ne]; omega
          have e2 : ((k : Int) == 2) = false := by rw [beq_eq_false_iff_ne]; omega
          have e3 : ((k : Int) == 3) = false := by rw [beq_eq_false_iff_ne]; omega
          have e4 : ((k : Int) == 4) = true := by rw [beq_iff_eq]; omega
          have HKJ : Hid (mixH h x k = { h with work := x.work }) := by show _ = _; unfold mixH; rw [if_neg k0]; rw [if_neg k1]; rw [if_neg k2]; rw [if_neg k3]; rw [if_pos k4]
          clear k0 k1 k2 k3 k4
          obtain ⟨n, hn⟩ : ∃ n, n = x.work := ⟨_, rfl⟩
          have cx : w5.cell? ⟨g3, 66, none⟩ = some (.int .u32 (n : Int)) := by rw [hn]; exact (X.out.cells HX.out).2.2.1
          have HN := Lib.hid hn
          clear hn
          go_wp2_with ((with_reducible show wpList _ _ _ _ _ _); refine st_work (g := gc) (h := h) rfl (.tmp 55) (.tmp 54) rfl rfl n rfl HH.out G.out ?_; intro w6 q1 q2; have G6 := Lib.hid q1; have Q6 := Lib.hid q2; clear q1 q2; go_frame)
          go_meet
          case rel => exact ⟨by rw [HKJ.out, ← HN.out]; exact G6.out, Q6.out⟩
        have e0 : ((k : Int) == 0) = false := by rw [beq_eq_false_iff_ne]; omega
        have e1 : ((k : Int) == 1) = false := by rw [beq_eq_false_iff_ne]; omega
        have e2 : ((k : Int) == 2) = false := by rw [beq_eq_false_iff_ne]; omega
        have e3 : ((k : Int) == 3) = false := by rw [beq_eq_false_iff_ne]; omega
        have e4 : ((k : Int) == 4) = false := by rw [beq_eq_false_iff_ne]; omega
        have k5 : k = 5 := by omega
        have HKJ : Hid (mixH h x k = { h with nonce := x.nonce }) := by show _ = _; unfold mixH; rw [if_neg k0]; rw [if_neg k1]; rw [if_neg k2]; rw [if_neg k3]; rw [if_neg k4];
        clear k0 k1 k2 k3 k4 k5
        obtain ⟨n, hn⟩ : ∃ n, n = x.nonce := ⟨_, rfl⟩
        have cx : w5.cell? ⟨g3, 67, none⟩ = some (.int .u32 (n : Int)) := by rw [hn]; exact (X.out.cells HX.out).2.2.2
        have HN := Lib.hid hn
        clear hn
        go_wp2_with ((with_reducible show wpList _ _ _ _ _ _); refine st_nonce (g := gc) (h := h) rfl (.tmp 30) (.tmp 29) rfl rfl n rfl HH.out G.out ?_; intro w6 q1 q2; have G6 := Lib.hid q1; have Q6 := Lib.hid q2; clear q1 q2; go_frame)
        go_meet
        case rel => exact ⟨by rw [HKJ.out, ← HN.out]; exact G6.out, Q6.out⟩
      case rest =>
        obtain ⟨G6, Q6⟩ := hcut
        have hB6 : Below w4.heap.size w4 wc := B4.out.grown Q6 B4.out.size (fun k hk => by cases hk; exact GCS.out)
        have B6 := Lib.hid hB6
        have G6 := Lib.hid G6
        have KL := Lib.hid hlt
        clear hB6 Q6 F X C GF GT B B4 G
        obtain ⟨m, hm⟩ : ∃ m, m = mixH h x k := ⟨_, rfl⟩
        have MO : Hid (HdOk m) := by show HdOk m; rw [hm]; exact mix_ok HH.out HX.out k
        have MC := mix_cut HH.out HX.out k hlt
        rw [← hm] at G6 MC
        have MC := Lib.hid MC
        have LM80 : Hid ((hdB m).length = 80) := hdB_length MO.out
        obtain ⟨lc, hlc⟩ : ∃ l, l = hdL m := ⟨_, rfl⟩
        have LNC : Hid (lc.length = 68) := by show _ = _; rw [hlc]; exact hdL_length MO.out
        have R6 : Hid (wc.heap[gc]? = some (.cells lc.toArray 26 (0, 0))) := by show _ = _; rw [hlc]; exact G6.out.row
        have BYC : Hid (∀ W, Calls Tryd.prog 7 #[.agg lc.toArray] W fun e w' => ∃ v, e = .returned v ∧ CopyB W w' v (hdB m)) := fun W => by rw [hlc]; exact hdbytes_any m MO.out W
        have HLC := Lib.hid hlc
        clear hm hlc G6 hlt
        go_wp2_with ((with_reducible show wpList _ _ _ _ _ _); refine wpList_load_row rfl 26 (.tmp 10) rfl gc rfl 26 lc.toArray (0, 0) _ R6.out Tryd.underlying26 rfl (by show _ = some lc.length; rw [LNC.out] <;> kernel_rfl) ?_; go_frame)
        refine (BYC.out wc).mono ?_
        rintro e w7 ⟨v7, rfl, hc7⟩
        have ho7 := hc7.1
        rw [LM80.out] at ho7
        obtain ⟨gd, cd, rfl, hgd, hcd⟩ := own_shape ho7 (by omega)
        have D7 := Lib.hid hc7.src
        have R7 := Lib.hid (row_below R6.out hc7.2)
        have B7 := Lib.hid (B6.out.trans (hc7.2.mono B6.out.size))
        clear ho7 hc7 hgd R6 B6 BYC
        have F7 : Hid (∀ w', Below w7.heap.size w7 w' → w'.heap[g2]? = some (.cells l0.toArray 26 (0, 0))) := fun w' hw' => by rw [HL0.out]; exact ((F4.out.below B7.out).below hw').row
        have CR : Hid (∀ w', Below w7.heap.size w7 w' → w'.heap[gc]? = some (.cells lc.toArray 26 (0, 0))) := fun w' hw' => row_below R7.out hw'
        have S7 : Hid (SrcB w7 (.slice (some ⟨gb, 0, none⟩) 80 cb) (hdB h)) := S4.out.below B7.out
        obtain ⟨f, hf⟩ : ∃ f, f = fromN k := ⟨_, rfl⟩
        obtain ⟨t, ht⟩ : ∃ t, t = toN k := ⟨_, rfl⟩
        have CF : Hid (∀ w', Below w7.heap.size w7 w' → w'.cell? ⟨gf, k, none⟩ = some (.int .i64 (f : Int))) := fun w' hw' => by
          rw [cell_of_row _ _ _ _ _ _ (row_below (row_below GF4.out B7.out) hw'), from_cell k KL.out, hf]
        have CT : Hid (∀ w', Below w7.heap.size w7 w' → w'.cell? ⟨gt, k, none⟩ = some (.int .i64 (t : Int))) := fun w' hw' => by
          rw [cell_of_row _ _ _ _ _ _ (row_below (row_below GT4.out B7.out) hw'), to_cell k KL.out, ht]
        have f80 : f ≤ 80 := by rw [hf]; exact (from_bd k KL.out).1
        have t80 : t ≤ 80 := by rw [ht]; exact (from_bd k KL.out).2
        have MC := MC.out
        rw [← hf, ← ht] at MC
        obtain ⟨vd1, hvd1⟩ : ∃ v, sliced (some ⟨gd, 0, none⟩) 0 f cd 1 = v := ⟨_, rfl⟩
        obtain ⟨vb1, hvb1⟩ : ∃ v, sliced (some ⟨gb, 0, none⟩) 0 f cb 1 = v := ⟨_, rfl⟩
        obtain ⟨vd2, hvd2⟩ : ∃ v, sliced (some ⟨gd, 0, none⟩) t 80 cd 1 = v := ⟨_, rfl⟩
        obtain ⟨vb2, hvb2⟩ : ∃ v, sliced (some ⟨gb, 0, none⟩) t 80 cb 1 = v := ⟨_, rfl⟩
        obtain ⟨q, hq⟩ : ∃ q, q = decide (hdB m = hdB h) := ⟨_, rfl⟩
        obtain ⟨s, hs⟩ : ∃ s, s = decide (hdId m = hdId h) := ⟨_, rfl⟩
        have CS1 : Hid (∀ w', Below w7.heap.size w7 w' → Calls Tryd.prog 14 #[vd1, vb1] w' fun e w'' => e = .returned (.bool true) ∧ Below w'.heap.size w' w'') := fun w' hw' => by
          rw [← hvd1, ← hvb1]
          exact same_bytes_v _ _ _ _ true w' (src_head (D7.out.below hw') f f80) (src_head (S7.out.below hw') f f80) (by rw [MC.1]; simp) (by rw [List.length_take, LM80.out]; omega)
        have CS2 : Hid (∀ w', Below w7.heap.size w7 w' → Calls Tryd.prog 14 #[vd2, vb2] w' fun e w'' => e = .returned (.bool true) ∧ Below w'.heap.size w' w'') := fun w' hw' => by
          rw [← hvd2, ← hvb2]
          exact same_bytes_v _ _ _ _ true w' (src_tail (D7.out.below hw') t t80) (src_tail (S7.out.below hw') t t80) (by rw [MC.2]; simp) (by rw [List.length_drop, LM80.out]; omega)
        have CS3 : Hid (∀ w', Below w7.heap.size w7 w' → Calls Tryd.prog 14 #[.slice (some ⟨gd, 0, none⟩) 80 cd, .slice (some ⟨gb, 0, none⟩) 80 cb] w' fun e w'' => e = .returned (.bool q) ∧ Below w'.heap.size w' w'') := fun w' hw' =>
          same_bytes_v _ _ _ _ q w' (D7.out.below hw') (S7.out.below hw') hq (by rw [LM80.out]; omega)
        have CS4 : Hid (∀ w', Calls Tryd.prog 11 #[.agg lc.toArray, .agg l0.toArray] w' fun e w'' => e = .returned (.bool q) ∧ Below w'.heap.size w' w'') := fun w' => by
          rw [HLC.out, HL0.out]
          exact samehd_any m h MO.out HH.out q (by rw [hq, decide_eq_true_eq]; exact ⟨hd_inj MO.out HH.out, fun e => by rw [e]⟩) w'
        have CI1 : Hid (∀ w', Below w7.heap.size w7 w' → Calls Tryd.prog 16 #[.agg lc.toArray] w' fun e w'' => e = .returned (.agg ((hdId m).map bV).toArray) ∧ Below w'.heap.size w' w'') := fun w' hw' => by
          rw [HLC.out]
          exact id_hd m MO.out w' (((HK.out.below BW4.out).below B7.out).below hw')
        have CI2 : Hid (∀ w', Below w7.heap.size w7 w' → Calls Tryd.prog 16 #[.agg l0.toArray] w' fun e w'' => e = .returned (.agg ((hdId h).map bV).toArray) ∧ Below w'.heap.size w' w'') := fun w' hw' => by
          rw [HL0.out]
          exact id_hd h HH.out w' (((HK.out.below BW4.out).below B7.out).below hw')
        have CH1 : Hid (∀ w', Calls Tryd.prog 15 #[.agg ((hdId m).map bV).toArray, .agg ((hdId h).map bV).toArray] w' fun e w'' => e = .returned (.bool s) ∧ Below w'.heap.size w' w'') := fun w' => same_b _ _ (hdId_length _) (hdId_length _) s hs w'
        have CH2 : Hid (∀ w', Calls Tryd.prog 15 #[.agg ((hdId h).map bV).toArray, .agg ((hdId m).map bV).toArray] w' fun e w'' => e = .returned (.bool s) ∧ Below w'.heap.size w' w'') := fun w' => same_b _ _ (hdId_length _) (hdId_length _) s (by rw [hs]; exact decide_eq_decide.2 eq_comm) w'
        obtain ⟨im, him⟩ : ∃ l, l = ((hdId m).map bV).toArray := ⟨_, rfl⟩
        obtain ⟨ih, hih⟩ : ∃ l, l = ((hdId h).map bV).toArray := ⟨_, rfl⟩
        rw [← him] at CI1 CH1 CH2
        rw [← hih] at CI2 CH1 CH2
        have V1 := Lib.hid hvd1
        have V2 := Lib.hid hvb1
        have V3 := Lib.hid hvd2
        have V4 := Lib.hid hvb2
        clear him hih hvd1 hvb1 hvd2 hvb2 hq hs MC hf ht R7 D7 S7
        go_upto_region 26 with fail
        refine wp_region_below (by kernel_rfl) (by kernel_rfl) w7 (Below.refl _ _) ?_
        repeat (first | (go_big_quiet_want; refine quiet_load_one 3 (.tmp 65) rfl gf k rfl (.int .i64 (f : Int)) _ (fun w' hw' => CF.out w' hw') Tryd.underlying3 rfl ?_; go_frame; go_big_quiet_on) | (go_big_quiet_want; refine quiet_load_one 3 (.tmp 71) rfl gf k rfl (.int .i64 (f : Int)) _ (fun w' hw' => CF.out w' hw') Tryd.underlying3 rfl ?_; go_frame; go_big_quiet_on) | (go_big_quiet_want; refine quiet_load_one 3 (.tmp 81) rfl gt k rfl (.int .i64 (t : Int)) _ (fun w' hw' => CT.out w' hw') Tryd.underlying3 rfl ?_; go_frame; go_big_quiet_on) | (go_big_quiet_want; refine quiet_load_one 3 (.tmp 87) rfl gt k rfl (.int .i64 (t : Int)) _ (fun w' hw' => CT.out w' hw') Tryd.underlying3 rfl ?_; go_frame; go_big_quiet_on) | (go_big_quiet_want; refine quiet_load_row 26 (.tmp 10) rfl gc rfl 26 lc.toArray (0, 0) _ (fun w' hw' => CR.out w' hw') Tryd.underlying26 rfl (by show _ = some lc.length; rw [LNC.out] <;> kernel_rfl) ?_; go_frame; go_big_quiet_on) | (go_big_quiet_want; refine quiet_load_row 26 (.tmp 2) rfl g2 rfl 26 l0.toArray (0, 0) _ (fun w' hw' => F7.out w' hw') Tryd.underlying26 rfl (by show _ = some l0.length; rw [LN0.out] <;> kernel_rfl) ?_; go_frame; go_big_quiet_on) | (go_big_quiet_want; refine quiet_cut_h 28 (.tmp 62) (.tmp 66) rfl 5 Tryd.underlying28 (by kernel_rfl) (some ⟨gd, 0, none⟩) 80 cd f rfl rfl (by omega) vd1 V1.out ?_; go_frame; go_big_quiet_on) | (go_big_quiet_want; refine quiet_cut_h 28 (.tmp 68) (.tmp 72) rfl 5 Tryd.underlying28 (by kernel_rfl) (some ⟨gb, 0, none⟩) 80 cb f rfl rfl (by omega) vb1 V2.out ?_; go_frame; go_big_quiet_on) | (go_big_quiet_want; refine quiet_cut_l 28 (.tmp 78) (.tmp 82) rfl 5 Tryd.underlying28 (by kernel_rfl) (some ⟨gd, 0, none⟩) 80 cd t rfl rfl (by omega) vd2 V3.out ?_; go_frame; go_big_quiet_on) | (go_big_quiet_want; refine quiet_cut_l 28 (.tmp 84) (.tmp 88) rfl 5 Tryd.underlying28 (by kernel_rfl) (some ⟨gb, 0, none⟩) 80 cb t rfl rfl (by omega) vb2 V4.out ?_; go_frame; go_big_quiet_on) | (go_big_quiet_want; refine quiet_neq_self (.tmp 96) (.tmp 99) _ rfl q rfl rfl ?_; go_frame; go_big_quiet_on) | (go_big_quiet_want; refine quiet_neq_self (.tmp 107) (.tmp 112) _ rfl s rfl rfl ?_; go_frame; go_big_quiet_on) | go_big_quiet_step ((intro hw'; first | with_reducible exact cls hw' (CS1.out _ hw') | with_reducible exact cls hw' (CS2.out _ hw') | with_reducible exact cls hw' (CS3.out _ hw') | with_reducible exact cls hw' (CS4.out _) | with_reducible exact cls hw' (CI1.out _ hw') | with_reducible exact cls hw' (CI2.out _ hw') | with_reducible exact cls hw' (CH1.out _) | with_reducible exact cls hw' (CH2.out _))) | go_big_quiet_step ((intro _; rfl)))
        refine wpQuiet_nil ?_
        intro w8 hw8
        have B8 := Lib.hid (B7.out.trans (hw8.mono B7.out.size))
        clear hw8
        go_wp2_with fail
        go_roundw
        case rel => exact ⟨k + 1, by omega, by go_num, B8.out⟩
        case measure => simp [intOf]; omega
    · have hge : ¬ (k : Int) < 6 := by omega
      have SE := Lib.hid (S4.out.below B4.out)
      have FE := F
      obtain ⟨y0, hy0⟩ : ∃ y, y = bv ((hdB h).getD 0 0) := ⟨_, rfl⟩
      obtain ⟨y68, hy68⟩ : ∃ y, y = bv ((hdB h).getD 68 0) := ⟨_, rfl⟩
      obtain ⟨y71, hy71⟩ : ∃ y, y = bv ((hdB h).getD 71 0) := ⟨_, rfl⟩
      obtain ⟨tv, htv⟩ : ∃ y, y = h.time := ⟨_, rfl⟩
      obtain ⟨vv, hvv⟩ : ∃ y, y = h.ver := ⟨_, rfl⟩
      have Z0 : Hid (∀ w', Below wr.heap.size wr w' → w'.cell? ⟨gb, 0, none⟩ = some (.int .u8 y0)) := fun w' hw' => by rw [hy0]; exact src_at (SE.out.below hw') (by rw [L80.out]; omega)
      have Z68 : Hid (∀ w', Below wr.heap.size wr w' → w'.cell? ⟨gb, 68, none⟩ = some (.int .u8 y68)) := fun w' hw' => by rw [hy68]; exact src_at (SE.out.below hw') (by rw [L80.out]; omega)
      have Z71 : Hid (∀ w', Below wr.heap.size wr w' → w'.cell? ⟨gb, 71, none⟩ = some (.int .u8 y71)) := fun w' hw' => by rw [hy71]; exact src_at (SE.out.below hw') (by rw [L80.out]; omega)
      have Z65 : Hid (∀ w', Below wr.heap.size wr w' → w'.cell? ⟨g2, 65, none⟩ = some (.int .u32 (tv : Int))) := fun w' hw' => by rw [htv]; exact ((FE.out.below hw').cells HH.out).2.1
      have ZV : Hid (∀ w', Below wr.heap.size wr w' → w'.cell? ⟨g2, 0, none⟩ = some (.int .u32 (vv : Int))) := fun w' hw' => by rw [hvv]; exact ((FE.out.below hw').cells HH.out).1
      have Y0 := Lib.hid hy0
      have Y68 := Lib.hid hy68
      have Y71 := Lib.hid hy71
      have TV := Lib.hid htv
      have VV := Lib.hid hvv
      have t0 : (y0 == (vv : Int) % 256) = true := by rw [beq_iff_eq, hy0, hvv]; exact hd_byte0 h
      have t68 : (y68 == (tv : Int) % 256) = true := by rw [beq_iff_eq, hy68, htv]; exact hd_byte68 HH.out
      have t71 : (y71 == (tv : Int) / 16777216 % 256) = true := by rw [beq_iff_eq, hy71, htv, hd_byte71 HH.out]; omega
      have BE := B
      clear hy0 hy68 hy71 htv hvv F X C GF GT B4 BY
      go_wp2_with fail
      refine wp_region_below (by kernel_rfl) (by kernel_rfl) wr (Below.refl _ _) ?_
      repeat (first | (go_big_quiet_want; refine quiet_load_one 5 (.tmp 118) rfl gb 68 rfl _ _ (fun w' hw' => Z68.out w' hw') Tryd.underlying5 rfl ?_; go_frame; go_big_quiet_on) | (go_big_quiet_want; refine quiet_load_one 22 (.tmp 120) rfl g2 65 rfl _ _ (fun w' hw' => Z65.out w' hw') Tryd.underlying22 rfl ?_; go_frame; go_big_quiet_on) | (go_big_quiet_want; refine quiet_load_one 5 (.tmp 127) rfl gb 71 rfl _ _ (fun w' hw' => Z71.out w' hw') Tryd.underlying5 rfl ?_; go_frame; go_big_quiet_on) | (go_big_quiet_want; refine quiet_load_one 22 (.tmp 129) rfl g2 65 rfl _ _ (fun w' hw' => Z65.out w' hw') Tryd.underlying22 rfl ?_; go_frame; go_big_quiet_on) | (go_big_quiet_want; refine quiet_load_one 5 (.tmp 137) rfl gb 0 rfl _ _ (fun w' hw' => Z0.out w' hw') Tryd.underlying5 rfl ?_; go_frame; go_big_quiet_on) | (go_big_quiet_want; refine quiet_load_one 22 (.tmp 139) rfl g2 0 rfl _ _ (fun w' hw' => ZV.out w' hw') Tryd.underlying22 rfl ?_; go_frame; go_big_quiet_on) | go_big_quiet_step ((intro _; rfl)))
      refine wpQuiet_nil ?_
      intro w8 hw8
      have B8 := Lib.hid (BE.out.trans (hw8.mono BE.out.size))
      clear hw8
      go_wp2_with fail
      go_ret
      exact ⟨rfl, B8.out⟩
end Go.Proofs.YtlfpjfhpleociaaDoor.Sha
