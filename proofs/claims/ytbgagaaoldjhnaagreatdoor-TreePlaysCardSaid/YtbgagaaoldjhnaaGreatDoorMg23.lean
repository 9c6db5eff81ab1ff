/-
  Texts of this proof joined into one file: RefTreeStart, HsSame, HdSame. What each holds, and under which conditions, its own first sentence tells.
-/
import Derived.IntWalk
import Derived.Test.YtbgagaaoldjhnaaGreatDoorMg06
import Derived.Test.YtbgagaaoldjhnaaGreatDoorMg05
import Derived.Test.YtbgagaaoldjhnaaGreatDoorMg11
import Derived.Test.YtbgagaaoldjhnaaGreatDoorMg01
import Derived.Test.YtbgagaaoldjhnaaGreatDoorMg03
/-
  The statements' own tree: the id that it starts from. Nothing that was there turns. Conditions: the tree lies where the pointer says, nodes as the model has them; not empty.
-/
namespace Go.Proofs.YtbgagaaoldjhnaaGreatDoor.Sha
open Go Go.RowKit
set_option maxHeartbeats 2000000 in
set_option maxRecDepth 100000 in
theorem rtstart_any (w : World) (base a : Nat) (v : Value) (L : List TNd) (x : TNd) (h : TreeAt w base a v L) (ho : ∀ x ∈ L, NdOk x) (hx : L[0]? = some x) :
    Calls Tryz.prog 30 #[(.pointer (some ⟨a, 0, none⟩))] w fun e w' => e = .returned (.agg (x.id.map bV).toArray) ∧ Below w.heap.size w w' := by
  obtain ⟨sp, cap, rfl⟩ := h.at.shape
  rw [List.length_map] at h
  obtain ⟨n, hnl⟩ : ∃ n, n = L.length := ⟨_, rfl⟩
  rw [← hnl] at h
  have hn0 : 0 < n := by rw [hnl]; exact (List.getElem?_eq_some_iff.1 hx).1
  obtain ⟨b, o, rfl, hg⟩ := h.get hn0
  have ox := ho x (List.mem_of_getElem? hx)
  have c1 := (Below.refl w.heap.size w).alloc (Nat.le_refl _) (.cells (List.replicate 32 (bV 0)).toArray 25 (0, 0))
  have h2 := h.below c1
  have RX := Lib.hid (nd_id (range_below (hg 0 x hx) c1))
  have LX : Hid ((x.id.map bV).length = 32) := by show _ = _; rw [List.length_map]; exact ox.1
  have OX : Hid ((x.id.map bV).toArray.all (·.oneCell') = true) := all_oneCell_toArray (bV_one' _)
  obtain ⟨cx, hcx⟩ : ∃ cx, cx = x.id.map bV := ⟨_, rfl⟩
  rw [← hcx] at RX LX OX ⊢
  have hn1 : (0 : Int) < (n : Int) := by omega
  have TC := h2.cell
  rw [Nat.zero_mul, Nat.add_zero] at RX
  obtain ⟨z, hz⟩ : ∃ z : List Value, z = List.replicate 32 (bV 0) := ⟨_, rfl⟩
  have LZ : Hid (z.length = 32) := by show _ = _; rw [hz]; rfl
  have f1 := heap_alloc_new w (.cells (List.replicate 32 (bV 0)).toArray 25 (0, 0))
  clear hnl h ho hx hg ox hcx h2 hn0
  go_enter Tryz.func30, Tryz.ntmps30
  go_upto_region 1 with fail
  generalize hw1 : World.alloc _ _ = w1
  have e1 : w.alloc (.cells (List.replicate 32 (bV 0)).toArray 25 (0, 0)) = w1 := hw1
  rw [e1] at f1 c1 RX TC
  rw [← hz] at f1
  obtain ⟨g2, hg2⟩ : ∃ g2, g2 = w.heap.size := ⟨_, rfl⟩
  have G2 : Hid (w.heap.size ≤ g2) := by show _ ≤ _; omega
  rw [← hg2] at f1 ⊢
  have F2 := Lib.hid f1
  have B1 := Lib.hid c1
  clear f1 c1 hw1 e1 hg2 hz
  go_wp2_with (first | ((with_reducible show wpList _ _ _ _ _ _); refine wpList_load_mid rfl 25 (.tmp 8) rfl b o rfl cx _ RX.out Tryz.underlying25 rfl (by rw [LX.out]; kernel_rfl) ?_; go_frame) | ((with_reducible show wpList _ _ _ _ _ _); refine wpList_store_row rfl 25 (.tmp 2) (.tmp 9) rfl g2 cx.toArray rfl rfl 25 _ F2.out (by show _ = some cx.length; rw [LX.out]; kernel_rfl) (by rw [List.size_toArray, List.size_toArray, LZ.out, LX.out]) OX.out ?_; go_frame))
  refine bodyPost_ret (results_cell_row rfl _ _ g2 25 cx.toArray (0, 0) _ rfl (setRow_heap _ _ _ _ _ _ F2.out) Tryz.underlying25 rfl (by show _ = some cx.length; rw [LX.out]; kernel_rfl)) rfl ?_
  exact ⟨rfl, B1.out.grown (setRow_grown _) B1.out.size (fun k hk => by cases hk; exact G2.out)⟩
end Go.Proofs.YtbgagaaoldjhnaaGreatDoor.Sha

/-
  The statements' own SameHashes tells whether two rows of digests are the same. Nothing that was there turns. Conditions: the digests lie where the slices say.
-/
namespace Go.Proofs.YtbgagaaoldjhnaaGreatDoor.Sha
open Go Go.RowKit
theorem rows_same {a b : List (List UInt8)} {n : Nat} (h1 : a.length = n) (h2 : b.length = n) (h : ∀ j, j < n → a.getD j [] = b.getD j []) : a = b := by
  apply List.ext_getElem (by omega)
  intro i k1 k2
  have := h i (by omega)
  simpa [List.getD, List.getElem?_eq_getElem k1, List.getElem?_eq_getElem k2] using this
def smhInv (a b : List (List UInt8)) (w : World) (vi : Value) (wr : World) : Prop :=
  ∃ k : Nat, k ≤ a.length ∧ vi = .int .i64 k ∧ (∀ j, j < k → a.getD j [] = b.getD j []) ∧ Below w.heap.size w wr
set_option maxHeartbeats 2000000 in
set_option maxRecDepth 100000 in
theorem samehs_any (x y : List (List UInt8)) (sp sq : Option Addr) (n m cap cbp : Nat) (w : World) (hx : HsAt w (.slice sp n cap) x) (hy : HsAt w (.slice sq m cbp) y) (hn : n ≤ 1048576) (r : Bool) (hr : r = true ↔ x = y) :
    Calls Tryz.prog 21 #[.slice sp n cap, .slice sq m cbp] w fun e w' => e = .returned (.bool r) ∧ Below w.heap.size w w' := by
  have HNX := Lib.hid hx.len.1
  have HNY := Lib.hid hy.len.1
  have HX := Lib.hid hx
  have HY := Lib.hid hy
  have HR := Lib.hid hr
  clear hx hy hr
  by_cases hnm : n = m
  · obtain rfl := hnm
    go_enter Tryz.func21, Tryz.ntmps21
    go_wp2_with fail
    go_loopw [5] (fun vi wr => smhInv x y w vi wr) (fun vi _ => n - (intOf vi).toNat)
    case atStart => exact ⟨0, Nat.zero_le _, rfl, fun j hj => by omega, Below.refl _ _⟩
    case round =>
      obtain ⟨k, hk, rfl, he, hb⟩ := hrel
      have HE := Lib.hid he
      have B := Lib.hid hb
      clear he hb
      by_cases hlt : k < n
      · obtain ⟨b, o, rfl, hbw, hg⟩ := (HX.out.below B.out).get (by omega)
        obtain ⟨b2, o2, rfl, hbw2, hg2⟩ := (HY.out.below B.out).get (by omega)
        obtain ⟨u, hu⟩ : ∃ u, u = x.getD k [] := ⟨_, rfl⟩
        obtain ⟨v, hv⟩ : ∃ v, v = y.getD k [] := ⟨_, rfl⟩
        have RX := Lib.hid (hg k hlt)
        have RY := Lib.hid (hg2 k hlt)
        rw [← hu] at RX
        rw [← hv] at RY
        have lu : u.length = 32 := by rw [hu]; exact HX.out.1.get (by have := HNX.out; omega)
        have lv : v.length = 32 := by rw [hv]; exact HY.out.1.get (by have := HNY.out; omega)
        have LUL := Lib.hid lu
        have LVL := Lib.hid lv
        have LU : Hid ((u.map bV).length = 32) := by show _ = _; rw [List.length_map, lu]
        have LV : Hid ((v.map bV).length = 32) := by show _ = _; rw [List.length_map, lv]
        have HU := Lib.hid hu
        have HV := Lib.hid hv
        have p0 : 0 ≤ (k : Int) := by omega
        have q0 : (k : Int) < (n : Int) := by omega
        obtain ⟨d, hd⟩ : ∃ d, d = decide (u = v) := ⟨_, rfl⟩
        have SM : Hid (∀ w', Calls Tryz.prog 20 #[.agg (u.map bV).toArray, .agg (v.map bV).toArray] w' (SmPost d w')) := fun w' => by rw [hd]; exact same_any u v LUL.out LVL.out w'
        have HD := Lib.hid hd
        clear hg hg2 hu hv lu lv hd
        go_wp2_with fail
        refine wp_region_held_drew (S := (fun w' => Below w.heap.size w w' ∧ Below wr.heap.size wr w')) (by kernel_rfl) ⟨Below.drew B.out, Below.drew (Below.refl _ _)⟩ (fun hHeld => ?_)
        refine held_take (i := 0) (v := (.slice (some ⟨b, o, none⟩) n cap)) rfl (by kernel_rfl) (by kernel_rfl) (by kernel_rfl) (fun _ _ _ h => h) (Or.inl ⟨by rfl, fun w' _ => by kernel_rfl⟩) hHeld ?_
        go_frame
        refine held_take (i := 1) (v := (.int .i64 (k : Int))) rfl (by kernel_rfl) (by kernel_rfl) (by kernel_rfl) (fun _ _ _ h => h) (Or.inl ⟨by rfl, fun w' _ => by kernel_rfl⟩) hHeld ?_
        go_frame
        refine held_take (i := 2) (v := (.pointer (some ⟨b, o + k * 32, none⟩))) rfl (by kernel_rfl) (by kernel_rfl) (by kernel_rfl) (fun _ _ _ h => h) (Or.inl ⟨by rfl, fun w' _ => by go_simp⟩) hHeld ?_
        go_frame
        refine held_take (i := 3) (v := (.agg (u.map bV).toArray)) rfl (by kernel_rfl) (by kernel_rfl) (by kernel_rfl) (fun _ _ _ h => h) (Sha.yieldsIf_load_mid (by rfl) 25 (.tmp 20) rfl b (o + k * 32) rfl (u.map bV) _ (fun w' hw' => range_below RX.out hw'.2) Tryz.underlying25 rfl (by rw [LU.out]; kernel_rfl)) hHeld ?_
        go_frame
        refine held_take (i := 4) (v := (.slice (some ⟨b2, o2, none⟩) n cbp)) rfl (by kernel_rfl) (by kernel_rfl) (by kernel_rfl) (fun _ _ _ h => h) (Or.inl ⟨by rfl, fun w' _ => by kernel_rfl⟩) hHeld ?_
        go_frame
        refine held_take (i := 5) (v := (.int .i64 (k : Int))) rfl (by kernel_rfl) (by kernel_rfl) (by kernel_rfl) (fun _ _ _ h => h) (Or.inl ⟨by rfl, fun w' _ => by kernel_rfl⟩) hHeld ?_
        go_frame
        refine held_take (i := 6) (v := (.pointer (some ⟨b2, o2 + k * 32, none⟩))) rfl (by kernel_rfl) (by kernel_rfl) (by kernel_rfl) (fun _ _ _ h => h) (Or.inl ⟨by rfl, fun w' _ => by go_simp⟩) hHeld ?_
        go_frame
        refine held_take (i := 7) (v := (.agg (v.map bV).toArray)) rfl (by kernel_rfl) (by kernel_rfl) (by kernel_rfl) (fun _ _ _ h => h) (Sha.yieldsIf_load_mid (by rfl) 25 (.tmp 24) rfl b2 (o2 + k * 32) rfl (v.map bV) _ (fun w' hw' => range_below RY.out hw'.2) Tryz.underlying25 rfl (by rw [LV.out]; kernel_rfl)) hHeld ?_
        go_frame
        refine wpAnyH_ready (rs := [8]) (by kernel_rfl) (by simp) (held_cons rfl (fun K hK => ?_) AllReadyH.nil)
        go_simp
        refine (SM.out _).mono ?_
        rintro e w4 ⟨rfl, bb⟩
        have hw4 := And.intro (hHeld.1.trans (bb.mono hHeld.1.size)) (hHeld.2.trans (bb.mono hHeld.2.size))
        clear bb hHeld
        go_wp2_with fail
        refine hK.out _ _ hw4 (fun hHeld => ?_)
        clear hK K hw4
        refine held_take (i := 9) (v := .bool d) rfl (by kernel_rfl) (by kernel_rfl) (by kernel_rfl) (fun _ _ _ h => h) (Or.inl ⟨by rfl, fun w' _ => by kernel_rfl⟩) hHeld ?_
        go_frame
        refine wpAnyH_done (by kernel_rfl) ?_ _
        have B4 := Lib.hid hHeld.1
        clear hHeld
        by_cases huv : u = v
        · obtain rfl : d = true := by rw [HD.out]; exact decide_eq_true huv
          have HUV := Lib.hid huv
          clear huv SM
          go_wp2_with fail
          go_roundw
          case rel =>
            refine ⟨k + 1, by have := HNX.out; omega, by go_num, fun j hj => ?_, B4.out⟩
            by_cases hj2 : j < k
            · exact HE.out j hj2
            · obtain rfl : j = k := by omega
              rw [← HU.out, ← HV.out, HUV.out]
          case measure => simp [intOf]; omega
        · obtain rfl : d = false := by rw [HD.out]; exact decide_eq_false huv
          have hrf : r = false := by
            cases h : r with
            | false => rfl
            | true => exact absurd (by rw [HU.out, HV.out, HR.out.1 h]) huv
          have HRF := Lib.hid hrf
          clear huv SM hrf
          go_wp2_with fail
          go_ret
          exact ⟨by rw [HRF.out]; rfl, B4.out⟩
      · have hge : ¬ (k : Int) < (n : Int) := by omega
        have hrt : r = true := HR.out.2 (rows_same HNX.out.symm HNY.out.symm (fun j hj => HE.out j (by omega)))
        have HRT := Lib.hid hrt
        clear hrt
        go_wp2_with fail
        go_ret
        exact ⟨by rw [HRT.out]; rfl, B.out⟩
  · have t0 : ((n : Int) != (m : Int)) = true := by rw [bne_iff_ne]; omega
    have hrf : r = false := by
      cases h : r with
      | false => rfl
      | true => exact absurd (by rw [HNX.out, HNY.out, HR.out.1 h]) hnm
    have HRF := Lib.hid hrf
    clear hrf hnm
    go_enter Tryz.func21, Tryz.ntmps21
    go_wp2_with fail
    go_ret
    exact ⟨by rw [HRF.out]; rfl, Below.refl _ _⟩
theorem samehs_v (x y : List (List UInt8)) (v u : Value) (w : World) (hx : HsAt w v x) (hy : HsAt w u y) (hn : x.length ≤ 1048576) (r : Bool) (hr : r = true ↔ x = y) :
    Calls Tryz.prog 21 #[v, u] w fun e w' => e = .returned (.bool r) ∧ Below w.heap.size w w' := by
  obtain ⟨sp, cap, rfl⟩ := hx.shape
  obtain ⟨sq, cbp, rfl⟩ := hy.shape
  exact samehs_any x y sp sq _ _ cap cbp w hx hy hn r hr
end Go.Proofs.YtbgagaaoldjhnaaGreatDoor.Sha

/-
  The statements' own SameHead tells whether two headers are one. Nothing that was there turns. Condition: digests of 32 bytes, numbers of 32 bits.
-/
namespace Go.Proofs.YtbgagaaoldjhnaaGreatDoor.Sha
open Go Go.RowKit
/-- Two boxes, a header in each. -/
theorem hd_boxes (w : World) (h h' : THd) :
    Below w.heap.size w ((w.alloc (.cells (hdL h).toArray 27)).alloc (.cells (hdL h').toArray 27))
    ∧ HdBox ((w.alloc (.cells (hdL h).toArray 27)).alloc (.cells (hdL h').toArray 27)) w.heap.size h
    ∧ HdBox ((w.alloc (.cells (hdL h).toArray 27)).alloc (.cells (hdL h').toArray 27)) (w.heap.size + 1) h' := by
  refine ⟨(hd_box w h).1.trans ((hd_box (w.alloc (.cells (hdL h).toArray 27)) h').1.mono (hd_box w h).1.size), (hd_box w h).2.below (hd_box _ h').1, ?_⟩
  have q := (hd_box (w.alloc (.cells (hdL h).toArray 27)) h').2
  rwa [World.size_alloc] at q
theorem hd_ext {h g : THd} (h1 : h.ver = g.ver) (h2 : h.prev = g.prev) (h3 : h.root = g.root) (h4 : h.time = g.time) (h5 : h.work = g.work) (h6 : h.nonce = g.nonce) : h = g := by
  cases h; cases g; simp_all
set_option maxHeartbeats 1000000 in
set_option maxRecDepth 100000 in
theorem samehd_any (h g : THd) (hh : HdOk h) (hg : HdOk g) (b : Bool) (hb : b = true ↔ h = g) (w : World) :
    Calls Tryz.prog 17 #[.agg (hdL h).toArray, .agg (hdL g).toArray] w fun e w' => e = .returned (.bool b) ∧ Below w.heap.size w w' := by
  have HH := Lib.hid hh
  have HG := Lib.hid hg
  have NO : Hid (h ≠ g → b = false) := fun n => by cases b with
    | true => exact absurd (hb.1 rfl) n
    | false => rfl
  have YES : Hid (h = g → b = true) := hb.2
  have L1 : Hid ((h.prev.map bV).length = 32) := by show _ = _; rw [List.length_map]; exact hh.2.1
  have L1' : Hid ((g.prev.map bV).length = 32) := by show _ = _; rw [List.length_map]; exact hg.2.1
  have L2 : Hid ((h.root.map bV).length = 32) := by show _ = _; rw [List.length_map]; exact hh.2.2.1
  have L2' : Hid ((g.root.map bV).length = 32) := by show _ = _; rw [List.length_map]; exact hg.2.2.1
  obtain ⟨cs, hcs⟩ : ∃ cs, cs = hdL h := ⟨_, rfl⟩
  obtain ⟨cs', hcs'⟩ : ∃ cs, cs = hdL g := ⟨_, rfl⟩
  rw [← hcs, ← hcs']
  have CS := Lib.hid hcs
  have CS' := Lib.hid hcs'
  clear hcs hcs' hb hh hg
  go_enter Tryz.func17, Tryz.ntmps17
  go_upto_region 1 with fail
  rw [CS.out, CS'.out]
  obtain ⟨B, F, F'⟩ := hd_boxes w h g
  generalize hw1 : World.alloc (World.alloc w _) _ = w1
  rw [hw1] at B F F'
  have B := Lib.hid B
  have F := Lib.hid F
  have F' := Lib.hid F'
  clear hw1 CS CS'
  obtain ⟨ver, hver⟩ : ∃ n, n = h.ver := ⟨_, rfl⟩
  obtain ⟨ver', hver'⟩ : ∃ n, n = g.ver := ⟨_, rfl⟩
  have Ever := Lib.hid hver
  have Ever' := Lib.hid hver'
  clear hver hver'
  obtain ⟨time, htime⟩ : ∃ n, n = h.time := ⟨_, rfl⟩
  obtain ⟨time', htime'⟩ : ∃ n, n = g.time := ⟨_, rfl⟩
  have Etime := Lib.hid htime
  have Etime' := Lib.hid htime'
  clear htime htime'
  obtain ⟨work, hwork⟩ : ∃ n, n = h.work := ⟨_, rfl⟩
  obtain ⟨work', hwork'⟩ : ∃ n, n = g.work := ⟨_, rfl⟩
  have Ework := Lib.hid hwork
  have Ework' := Lib.hid hwork'
  clear hwork hwork'
  obtain ⟨nonce, hnonce⟩ : ∃ n, n = h.nonce := ⟨_, rfl⟩
  obtain ⟨nonce', hnonce'⟩ : ∃ n, n = g.nonce := ⟨_, rfl⟩
  have Enonce := Lib.hid hnonce
  have Enonce' := Lib.hid hnonce'
  clear hnonce hnonce'
  have CC : Hid (∀ w', Below w1.heap.size w1 w' → w'.cell? ⟨w.heap.size, 0, none⟩ = some (.int .u32 (ver : Int)) ∧ w'.cell? ⟨w.heap.size, 65, none⟩ = some (.int .u32 (time : Int)) ∧ w'.cell? ⟨w.heap.size, 66, none⟩ = some (.int .u32 (work : Int)) ∧ w'.cell? ⟨w.heap.size, 67, none⟩ = some (.int .u32 (nonce : Int))) := fun w' hw' => by
    rw [Ever.out, Etime.out, Ework.out, Enonce.out]
    exact (F.out.below hw').cells HH.out
  have CC' : Hid (∀ w', Below w1.heap.size w1 w' → w'.cell? ⟨w.heap.size + 1, 0, none⟩ = some (.int .u32 (ver' : Int)) ∧ w'.cell? ⟨w.heap.size + 1, 65, none⟩ = some (.int .u32 (time' : Int)) ∧ w'.cell? ⟨w.heap.size + 1, 66, none⟩ = some (.int .u32 (work' : Int)) ∧ w'.cell? ⟨w.heap.size + 1, 67, none⟩ = some (.int .u32 (nonce' : Int))) := fun w' hw' => by
    rw [Ever'.out, Etime'.out, Ework'.out, Enonce'.out]
    exact (F'.out.below hw').cells HG.out
  obtain ⟨c0, c65, c66, c67⟩ := CC.out w1 (Below.refl _ _)
  obtain ⟨d0, d65, d66, d67⟩ := CC'.out w1 (Below.refl _ _)
  have R1 : Hid (∀ w', Below w1.heap.size w1 w' → w'.rangeAt w.heap.size 1 (h.prev.map bV)) := fun w' hw' => (F.out.below hw').prev
  have R2 : Hid (∀ w', Below w1.heap.size w1 w' → w'.rangeAt w.heap.size 33 (h.root.map bV)) := fun w' hw' => (F.out.below hw').root HH.out
  have R1' : Hid (∀ w', Below w1.heap.size w1 w' → w'.rangeAt (w.heap.size + 1) 1 (g.prev.map bV)) := fun w' hw' => (F'.out.below hw').prev
  have R2' : Hid (∀ w', Below w1.heap.size w1 w' → w'.rangeAt (w.heap.size + 1) 33 (g.root.map bV)) := fun w' hw' => (F'.out.below hw').root HG.out
  by_cases ever : ver = ver'
  rotate_left
  · have ht : ((ver : Int) == (ver' : Int)) = false := by rw [beq_eq_false_iff_ne]; omega
    obtain rfl : b = false := NO.out (fun e => ever (by rw [Ever.out, Ever'.out, e]))
    clear ever
    go_wp2_with fail
    go_ret
    exact ⟨rfl, B.out⟩
  have tver : ((ver : Int) == (ver' : Int)) = true := by rw [beq_iff_eq]; omega
  have Qver := Lib.hid ever
  clear ever
  go_wp2_with ((with_reducible show wpList _ _ _ _ _ _); first | (refine wpList_load_midG 25 (.tmp 11) rfl w.heap.size 1 rfl (h.prev.map bV) _ (R1.out _ (Below.refl _ _)) Tryz.underlying25 rfl (by rw [L1.out]; kernel_rfl) rfl ?_; go_frame) | (refine wpList_load_midG 25 (.tmp 13) rfl (w.heap.size + 1) 1 rfl (g.prev.map bV) _ (R1'.out _ (Below.refl _ _)) Tryz.underlying25 rfl (by rw [L1'.out]; kernel_rfl) rfl ?_; go_frame))
  refine (same_b h.prev g.prev (by have := L1.out; simpa using this) (by have := L1'.out; simpa using this) _ rfl _).mono ?_
  rintro e w2 ⟨rfl, hb2⟩
  have B1 : Hid (Below w1.heap.size w1 w2) := hb2
  obtain ⟨c0, c65, c66, c67⟩ := CC.out w2 B1.out
  obtain ⟨d0, d65, d66, d67⟩ := CC'.out w2 B1.out
  clear hb2
  by_cases eprev : h.prev = g.prev
  rotate_left
  · rw [decide_eq_false eprev]
    obtain rfl : b = false := NO.out (fun e => eprev (by rw [e]))
    clear eprev
    go_wp2_with fail
    go_ret
    exact ⟨rfl, B.out.trans (B1.out.mono B.out.size)⟩
  rw [decide_eq_true eprev]
  have Qprev := Lib.hid eprev
  clear eprev
  go_wp2_with ((with_reducible show wpList _ _ _ _ _ _); first | (refine wpList_load_midG 25 (.tmp 18) rfl w.heap.size 33 rfl (h.root.map bV) _ (R2.out _ B1.out) Tryz.underlying25 rfl (by rw [L2.out]; kernel_rfl) rfl ?_; go_frame) | (refine wpList_load_midG 25 (.tmp 20) rfl (w.heap.size + 1) 33 rfl (g.root.map bV) _ (R2'.out _ B1.out) Tryz.underlying25 rfl (by rw [L2'.out]; kernel_rfl) rfl ?_; go_frame))
  refine (same_b h.root g.root (by have := L2.out; simpa using this) (by have := L2'.out; simpa using this) _ rfl _).mono ?_
  rintro e w3 ⟨rfl, hb2⟩
  have B2 : Hid (Below w1.heap.size w1 w3) := B1.out.trans (hb2.mono B1.out.size)
  obtain ⟨c0, c65, c66, c67⟩ := CC.out w3 B2.out
  obtain ⟨d0, d65, d66, d67⟩ := CC'.out w3 B2.out
  clear hb2
  by_cases eroot : h.root = g.root
  rotate_left
  · rw [decide_eq_false eroot]
    obtain rfl : b = false := NO.out (fun e => eroot (by rw [e]))
    clear eroot
    go_wp2_with fail
    go_ret
    exact ⟨rfl, B.out.trans (B2.out.mono B.out.size)⟩
  rw [decide_eq_true eroot]
  have Qroot := Lib.hid eroot
  clear eroot
  by_cases etime : time = time'
  rotate_left
  · have ht : ((time : Int) == (time' : Int)) = false := by rw [beq_eq_false_iff_ne]; omega
    obtain rfl : b = false := NO.out (fun e => etime (by rw [Etime.out, Etime'.out, e]))
    clear etime
    go_wp2_with fail
    go_ret
    exact ⟨rfl, B.out.trans (B2.out.mono B.out.size)⟩
  have ttime : ((time : Int) == (time' : Int)) = true := by rw [beq_iff_eq]; omega
  have Qtime := Lib.hid etime
  clear etime
  by_cases ework : work = work'
  rotate_left
  · have ht : ((work : Int) == (work' : Int)) = false := by rw [beq_eq_false_iff_ne]; omega
    obtain rfl : b = false := NO.out (fun e => ework (by rw [Ework.out, Ework'.out, e]))
    clear ework
    go_wp2_with fail
    go_ret
    exact ⟨rfl, B.out.trans (B2.out.mono B.out.size)⟩
  have twork : ((work : Int) == (work' : Int)) = true := by rw [beq_iff_eq]; omega
  have Qwork := Lib.hid ework
  clear ework
  by_cases enonce : nonce = nonce'
  rotate_left
  · have ht : ((nonce : Int) == (nonce' : Int)) = false := by rw [beq_eq_false_iff_ne]; omega
    obtain rfl : b = false := NO.out (fun e => enonce (by rw [Enonce.out, Enonce'.out, e]))
    clear enonce
    go_wp2_with fail
    go_ret
    exact ⟨rfl, B.out.trans (B2.out.mono B.out.size)⟩
  have tnonce : ((nonce : Int) == (nonce' : Int)) = true := by rw [beq_iff_eq]; omega
  have Qnonce := Lib.hid enonce
  clear enonce
  obtain rfl : b = true := YES.out (hd_ext (by rw [← Ever.out, ← Ever'.out]; exact Qver.out) Qprev.out Qroot.out (by rw [← Etime.out, ← Etime'.out]; exact Qtime.out) (by rw [← Ework.out, ← Ework'.out]; exact Qwork.out) (by rw [← Enonce.out, ← Enonce'.out]; exact Qnonce.out))
  go_wp2_with fail
  go_ret
  exact ⟨rfl, B.out.trans (B2.out.mono B.out.size)⟩
end Go.Proofs.YtbgagaaoldjhnaaGreatDoor.Sha
