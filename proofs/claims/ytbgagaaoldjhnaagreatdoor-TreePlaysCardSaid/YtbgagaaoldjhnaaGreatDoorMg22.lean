/-
  The statements' own tree: the way from one block to another. Nothing that was there turns. Conditions: the tree lies where the pointer says, parents stand ahead, the start alone has none, at most 4096 blocks.
-/
import Derived.Deep.CutBlock
import Derived.Lib.SmallJoins
import Derived.Test.YtbgagaaoldjhnaaGreatDoorMg21
import Derived.Test.YtbgagaaoldjhnaaGreatDoorMg11
import Derived.Test.YtbgagaaoldjhnaaGreatDoorMg13
import Derived.Test.YtbgagaaoldjhnaaGreatDoorMg06
namespace Go.Proofs.YtbgagaaoldjhnaaGreatDoor.Sha
open Go Go.RowKit
theorem results_t2ct {P : Program} {fn : Func} {p u1 u2 u3 : Tmp} {ty : TypeId} (h : fn.results = #[.tmp u1, .tmp u2, .cell p ty, .tmp u3]) (tmps : Array Value) (w : World) (g : Nat) (t : TypeId) (cs : Array Value) (fr : Nat × Nat) (d : TypeDesc)
    (hx : tmps.getD p undef = .pointer (some ⟨g, 0, none⟩)) (hg : w.heap[g]? = some (.cells cs t fr)) (hu : P.underlying ty = some d) (hd : (match d with | .struct _ | .array _ _ => true | _ => false) = true) (hi : (P.info? ty).map (·.size) = some cs.size) :
    (results fn tmps).run P w = .ok (.tuple #[tmps.getD u1 undef, tmps.getD u2 undef, .agg cs, tmps.getD u3 undef]) w := by
  have hp' : tmps[p]?.getD undef = .pointer (some ⟨g, 0, none⟩) := by simpa using hx
  simp [results, h, hp', asAddr, Result.andThen, run_loadVar_row (P := P) w g t ty cs fr d hg hu hd hi]
def PaPost (L : List TNd) (x y : Int) (w : World) (e : Ending) (w' : World) : Prop :=
  Below w.heap.size w w' ∧ ((x < 0 ∨ y < 0) ∧ e = .returned (.tuple #[.slice none 0 0, .slice none 0 0, .agg (List.replicate 32 (bV 0)).toArray, .bool false]) ∨
    0 ≤ x ∧ 0 ≤ y ∧ ∃ v1 v2, e = .returned (.tuple #[v1, v2, .agg ((meetT L x y).map bV).toArray, .bool true]) ∧ HsOwn w.heap.size w' v1 (backT L x y) ∧ HsOwn w.heap.size w' v2 (onT L x y))
def PaI1 (nl nm : Nat) (A B : List Int) (w : World) (vj : Value) (wr : World) : Prop :=
  ∃ j : Nat, vj = .int .i64 (j : Int) ∧ j ≤ nl ∧ j ≤ nm ∧ (∀ i, i < j → A[i]? = B[i]?) ∧ Below w.heap.size w wr
def PaI2 (L : List TNd) (U : List Int) (nb : Nat) (w : World) (vb vi : Value) (wr : World) : Prop :=
  ∃ (i : Nat) (bv : Value), bv = vb ∧ vi = .int .i64 (i : Int) ∧ i ≤ nb ∧ HsOwn w.heap.size wr bv (idsT L (U.take i)) ∧ Below w.heap.size w wr
def PaI3 (L : List TNd) (U V : List Int) (nb nc : Nat) (bv : Value) (w : World) (vo vj : Value) (wr : World) : Prop :=
  ∃ (d : Nat) (j : Int) (ov : Value), ov = vo ∧ vj = .int .i64 j ∧ d ≤ nc ∧ j = (nc : Int) - 1 - d ∧ HsOwn w.heap.size wr ov (idsT L (((V.take nc).reverse).take d)) ∧ HsOwn w.heap.size wr bv (idsT L (U.take nb)) ∧ (bv.ownBlock = none ∨ bv.ownBlock ≠ ov.ownBlock) ∧ Below w.heap.size w wr
theorem ne_none (a : Option Nat) : a = none ∨ a ≠ none := by
  cases a with
  | none => exact .inl rfl
  | some x => exact .inr (fun e => by cases e)
set_option maxHeartbeats 8000000 in
set_option maxRecDepth 100000 in
theorem rpath_any (w : World) (base a : Nat) (v : Value) (L : List TNd) (ia ib : List UInt8) (h : TreeAt w base a v L) (ho : ∀ x ∈ L, NdOk x) (hd : Down L) (hr : Rooted L) (hia : ia.length = 32) (hib : ib.length = 32) (hn : L.length ≤ 4096) :
    Calls Tryz.prog 25 #[(.pointer (some ⟨a, 0, none⟩)), .agg (ia.map bV).toArray, .agg (ib.map bV).toArray] w (PaPost L (findT L ia) (findT L ib) w) := by
  obtain ⟨i0, hi, hz0, hz1, hz2⟩ := info_parts info_hash
  have FA : Hid (∀ W, Below w.heap.size w W → Calls Tryz.prog 35 #[(.pointer (some ⟨a, 0, none⟩)), .agg (ia.map bV).toArray] W fun e w' => e = .returned (.int .i64 (findT L ia)) ∧ Below W.heap.size W w') := fun W hW => rfind_any W base a v L ia (h.below hW) ho hia hn
  have FB : Hid (∀ W, Below w.heap.size w W → Calls Tryz.prog 35 #[(.pointer (some ⟨a, 0, none⟩)), .agg (ib.map bV).toArray] W fun e w' => e = .returned (.int .i64 (findT L ib)) ∧ Below W.heap.size W w') := fun W hW => rfind_any W base a v L ib (h.below hW) ho hib hn
  have KX : Hid (findT L ia = -1 ∨ ∃ k : Nat, findT L ia = (k : Int) ∧ k < L.length) := by
    rcases findT_cases L ia with ⟨e, _⟩ | ⟨k, x, e, hx, _⟩
    · exact .inl e
    · exact .inr ⟨k, e, (List.getElem?_eq_some_iff.1 hx).1⟩
  have KY : Hid (findT L ib = -1 ∨ ∃ k : Nat, findT L ib = (k : Int) ∧ k < L.length) := by
    rcases findT_cases L ib with ⟨e, _⟩ | ⟨k, x, e, hx, _⟩
    · exact .inl e
    · exact .inr ⟨k, e, (List.getElem?_eq_some_iff.1 hx).1⟩
  have UP : Hid (∀ W (k : Nat), Below w.heap.size w W → k < L.length → Calls Tryz.prog 48 #[(.pointer (some ⟨a, 0, none⟩)), .int .i64 (k : Int)] W fun e w' => ∃ v', e = .returned v' ∧ IntsOwn W.heap.size w' v' (upL L (k : Int)) ∧ Below W.heap.size W w') := fun W k hW hk => rup_any W base a v L (k : Int) (h.below hW) ho hd hn (by omega) (by omega)
  have UM : Hid (∀ k : Nat, k < L.length → (∀ j ∈ upL L (k : Int), 0 ≤ j ∧ j < (L.length : Int)) ∧ (upL L (k : Int)).length ≤ 4096 ∧ 0 < (upL L (k : Int)).length) := fun k hk => by
    refine ⟨fun j hj => upL_mem hd k k (Nat.le_refl _) hk j hj, ?_, ?_⟩
    · have := upL_bound hd k k (Nat.le_refl _) hk
      omega
    · obtain ⟨x, hx⟩ : ∃ x, L[k]? = some x := ⟨_, List.getElem?_eq_getElem hk⟩
      rw [upL_step hd hx]
      exact Nat.succ_pos _
  have CP : Hid (∀ x y : Nat, x < L.length → y < L.length → 0 < comT L (x : Int) (y : Int)) := fun x y h1 h2 => com_pos hd hr h1 h2
  have LA : Hid ((ia.map bV).toArray.size = 32) := by show _ = _; rw [List.size_toArray, List.length_map, hia]
  have LB : Hid ((ib.map bV).toArray.size = 32) := by show _ = _; rw [List.size_toArray, List.length_map, hib]
  obtain ⟨sp, cap, rfl⟩ := h.at.shape
  rw [List.length_map] at h
  obtain ⟨n, hnl⟩ : ∃ n, n = L.length := ⟨_, rfl⟩
  rw [← hnl] at h hn KX KY UP UM CP
  have N := Lib.hid hnl
  have HT := Lib.hid h
  have OK := Lib.hid ho
  obtain ⟨x, hx⟩ : ∃ x, x = findT L ia := ⟨_, rfl⟩
  obtain ⟨y, hy⟩ : ∃ y, y = findT L ib := ⟨_, rfl⟩
  rw [← hx] at FA KX ⊢
  rw [← hy] at FB KY ⊢
  obtain ⟨ca, hca⟩ : ∃ ca, ca = ia.map bV := ⟨_, rfl⟩
  rw [← hca] at FA LA ⊢
  obtain ⟨cb, hcb⟩ : ∃ cb, cb = ib.map bV := ⟨_, rfl⟩
  rw [← hcb] at FB LB ⊢
  clear h ho hd hr hia hib hnl hx hy hca hcb
  go_enter Tryz.func25, Tryz.ntmps25
  go_upto_region 1 with fail
  have f4 := row_below (row_below (heap_alloc_new w (.cells ca.toArray 25 (0, 0))) ((Below.refl _ _).alloc (Nat.le_refl _) (.cells cb.toArray 25 (0, 0)))) ((Below.refl _ _).alloc (Nat.le_refl _) (.cells (List.replicate 32 (bV 0)).toArray 25 (0, 0)))
  have f5 := row_below (heap_alloc_new (w.alloc (.cells ca.toArray 25 (0, 0))) (.cells cb.toArray 25 (0, 0))) ((Below.refl _ _).alloc (Nat.le_refl _) (.cells (List.replicate 32 (bV 0)).toArray 25 (0, 0)))
  have f8 := heap_alloc_new ((w.alloc (.cells ca.toArray 25 (0, 0))).alloc (.cells cb.toArray 25 (0, 0))) (.cells (List.replicate 32 (bV 0)).toArray 25 (0, 0))
  have b1 := (((Below.refl w.heap.size w).alloc (Nat.le_refl _) (.cells ca.toArray 25 (0, 0))).alloc (by simp) (.cells cb.toArray 25 (0, 0))).alloc (by simp only [World.size_alloc]; omega) (.cells (List.replicate 32 (bV 0)).toArray 25 (0, 0))
  rw [World.size_alloc] at f5
  rw [World.size_alloc, World.size_alloc] at f8
  generalize hw1 : World.alloc _ _ = w1
  have e1 : ((w.alloc (.cells ca.toArray 25 (0, 0))).alloc (.cells cb.toArray 25 (0, 0))).alloc (.cells (List.replicate 32 (bV 0)).toArray 25 (0, 0)) = w1 := hw1
  rw [e1] at f4 f5 f8 b1
  obtain ⟨g4, hg4⟩ : ∃ g4, g4 = w.heap.size := ⟨_, rfl⟩
  obtain ⟨g8, hg8⟩ : ∃ g8, g8 = w.heap.size + 1 + 1 := ⟨_, rfl⟩
  rw [← hg8] at f8 ⊢
  rw [← hg4] at f4 f5 ⊢
  have G8 : Hid (w.heap.size ≤ g8) := by show _ ≤ _; omega
  have F4 := Lib.hid f4
  have F5 := Lib.hid f5
  have F8 := Lib.hid f8
  have B1 := Lib.hid b1
  clear f4 f5 f8 b1 hw1 e1 hg4 hg8
  go_wp2_with ((with_reducible show wpList _ _ _ _ _ _); (refine wpList_load_row rfl 25 (.tmp 4) rfl g4 rfl 25 ca.toArray (0, 0) _ F4.out Tryz.underlying25 rfl (by rw [LA.out]; kernel_rfl) ?_; go_frame))
  refine (FA.out w1 B1.out).mono ?_
  rintro e w2 ⟨rfl, bb⟩
  have F5 := Lib.hid (row_below F5.out bb)
  have F8 := Lib.hid (row_below F8.out bb)
  have B1 := Lib.hid (B1.out.trans (bb.mono B1.out.size))
  clear bb FA F4
  go_wp2_with ((with_reducible show wpList _ _ _ _ _ _); (refine wpList_load_row rfl 25 (.tmp 5) rfl (g4 + 1) rfl 25 cb.toArray (0, 0) _ F5.out Tryz.underlying25 rfl (by rw [LB.out]; kernel_rfl) ?_; go_frame))
  refine (FB.out w2 B1.out).mono ?_
  rintro e w3 ⟨rfl, bb⟩
  have F8 := Lib.hid (row_below F8.out bb)
  have B1 := Lib.hid (B1.out.trans (bb.mono B1.out.size))
  clear bb FB F5
  rcases KX.out with hk | ⟨k, hk, hkn⟩
  · have t0 : x < 0 := by omega
    clear hk
    go_wp2_with ((with_reducible show wpList _ _ _ _ _ _); first | (refine wpList_buildTo rfl 25 _ rfl _ rfl (List.replicate 32 (bV 0)).toArray (by kernel_rfl) ?_; go_frame) | (refine wpList_store_row rfl 25 (.tmp 8) (.tmp 31) rfl g8 (List.replicate 32 (bV 0)).toArray rfl rfl 25 _ F8.out (by kernel_rfl) rfl (by kernel_rfl) ?_; go_frame))
    refine bodyPost_ret (results_t2ct rfl _ _ g8 25 (List.replicate 32 (bV 0)).toArray (0, 0) _ rfl (setRow_heap _ _ _ _ _ _ F8.out) Tryz.underlying25 rfl (by kernel_rfl)) rfl ?_
    exact ⟨below_setRow B1.out (by have := G8.out; omega) _, .inl ⟨.inl t0, rfl⟩⟩
  rcases KY.out with hk2 | ⟨k2, hk2, hkn2⟩
  · have t0 : ¬ x < 0 := by omega
    have t1 : y < 0 := by omega
    clear hk hk2
    go_wp2_with ((with_reducible show wpList _ _ _ _ _ _); first | (refine wpList_buildTo rfl 25 _ rfl _ rfl (List.replicate 32 (bV 0)).toArray (by kernel_rfl) ?_; go_frame) | (refine wpList_store_row rfl 25 (.tmp 8) (.tmp 31) rfl g8 (List.replicate 32 (bV 0)).toArray rfl rfl 25 _ F8.out (by kernel_rfl) rfl (by kernel_rfl) ?_; go_frame))
    refine bodyPost_ret (results_t2ct rfl _ _ g8 25 (List.replicate 32 (bV 0)).toArray (0, 0) _ rfl (setRow_heap _ _ _ _ _ _ F8.out) Tryz.underlying25 rfl (by kernel_rfl)) rfl ?_
    exact ⟨below_setRow B1.out (by have := G8.out; omega) _, .inl ⟨.inr t1, rfl⟩⟩
  have t0 : ¬ x < 0 := by omega
  have t1 : ¬ y < 0 := by omega
  subst hk hk2
  have cp := CP.out k k2 hkn hkn2
  have cpe : comT L (k : Int) (k2 : Int) = comP (upL L (k : Int)).reverse (upL L (k2 : Int)).reverse := rfl
  have CPE := Lib.hid cpe
  clear cpe
  go_wp2_with fail
  refine (UP.out w3 k B1.out hkn).mono ?_
  rintro e w4 ⟨lv, rfl, hin, bb⟩
  have LV : Hid (RwOwn 1 3 w.heap.size w4 lv ((upL L (k : Int)).map intC)) := RwOwn.lower (ints_own hin) B1.out.size
  have F8 := Lib.hid (row_below F8.out bb)
  have B1 := Lib.hid (B1.out.trans (bb.mono B1.out.size))
  clear bb hin
  go_wp2_with fail
  refine (UP.out w4 k2 B1.out hkn2).mono ?_
  rintro e w5 ⟨mv, rfl, hin, bb⟩
  have MV : Hid (RwOwn 1 3 w.heap.size w5 mv ((upL L (k2 : Int)).map intC)) := RwOwn.lower (ints_own hin) B1.out.size
  have LV := Lib.hid (LV.out.keep bb)
  have F8 := Lib.hid (row_below F8.out bb)
  have B1 := Lib.hid (B1.out.trans (bb.mono B1.out.size))
  have mU := UM.out k hkn
  have mV := UM.out k2 hkn2
  obtain ⟨U, hU⟩ : ∃ U, U = upL L (k : Int) := ⟨_, rfl⟩
  obtain ⟨V, hV⟩ : ∃ V, V = upL L (k2 : Int) := ⟨_, rfl⟩
  rw [← hU] at LV mU CPE
  rw [← hV] at MV mV CPE
  obtain ⟨nl, hnl⟩ : ∃ nl, nl = U.length := ⟨_, rfl⟩
  obtain ⟨nm, hnm⟩ : ∃ nm, nm = V.length := ⟨_, rfl⟩
  rw [← hnl] at mU
  rw [← hnm] at mV
  obtain ⟨kc, hkc⟩ : ∃ kc, kc = comT L (k : Int) (k2 : Int) := ⟨_, rfl⟩
  rw [← hkc] at cp CPE
  have NL := Lib.hid hnl
  have NM := Lib.hid hnm
  have UE := Lib.hid hU
  have VE := Lib.hid hV
  have KE := Lib.hid hkc
  have UB := Lib.hid mU.1
  have VB := Lib.hid mV.1
  have l1 := mU.2.1
  have l2 := mU.2.2
  have m1 := mV.2.1
  have m2 := mV.2.2
  obtain ⟨sl, cl, rfl⟩ : ∃ sl cl, lv = .slice sl nl cl := by
    obtain ⟨sp, cap, e⟩ := (LV.out.at (by omega)).shape
    exact ⟨sp, cap, by rw [e, List.length_map, hnl]⟩
  obtain ⟨sm, cm, rfl⟩ : ∃ sm cm, mv = .slice sm nm cm := by
    obtain ⟨sp, cap, e⟩ := (MV.out.at (by omega)).shape
    exact ⟨sp, cap, by rw [e, List.length_map, hnm]⟩
  obtain ⟨gl, ol, rfl, hgl⟩ := (LV.out.at (by omega)).get (by omega)
  obtain ⟨gm, om, rfl, hgm⟩ := (MV.out.at (by omega)).get (by omega)
  have IL : Hid (∀ (i : Nat) z, U[i]? = some z → w5.cell? ⟨gl, ol + i, none⟩ = some (.int .i64 z)) := fun i z hz => int_cell (hgl i (intC z) (by rw [List.getElem?_map, hz]; rfl))
  have IM : Hid (∀ (i : Nat) z, V[i]? = some z → w5.cell? ⟨gm, om + i, none⟩ = some (.int .i64 z)) := fun i z hz => int_cell (hgm i (intC z) (by rw [List.getElem?_map, hz]; rfl))
  obtain ⟨bt, ot, rfl, hgt⟩ := (HT.out.below B1.out).get (by omega)
  have HG := Lib.hid hgt
  have TC5 := Lib.hid (HT.out.below B1.out).cell
  clear hin bb hgl hgm hgt LV MV hU hV hnl hnm hkc mU mV UP UM CP KX KY t0 t1
  go_upto_block 0 with fail
  go_cut [14] (fun v14 wx => v14 = .int .i64 (kc : Int) ∧ Below w5.heap.size w5 wx)
  case first =>
    go_wp2_with fail
    go_loopw [14] (fun vj wz => PaI1 nl nm U.reverse V.reverse w5 vj wz) (fun vj _ => nl - (intOf vj).toNat)
    case atStart => exact ⟨0, rfl, Nat.zero_le _, Nat.zero_le _, fun i hi => absurd hi (Nat.not_lt_zero _), Below.refl _ _⟩
    case round =>
      obtain ⟨j, rfl, h1, h2, hall, hb⟩ := hrel
      have AL := Lib.hid hall
      have B := Lib.hid hb
      clear hall hb
      by_cases c1 : j < nl
      · have d1 : (j : Int) < (nl : Int) := by omega
        by_cases c2 : j < nm
        · have d2 : (j : Int) < (nm : Int) := by omega
          obtain ⟨p, hp⟩ : ∃ p, j + p + 1 = nl := ⟨nl - 1 - j, by omega⟩
          obtain ⟨q, hq⟩ : ∃ q, j + q + 1 = nm := ⟨nm - 1 - j, by omega⟩
          obtain ⟨u, hu⟩ : ∃ u, U[p]? = some u := ⟨_, List.getElem?_eq_getElem (by rw [← NL.out]; omega)⟩
          obtain ⟨z, hz⟩ : ∃ z, V[q]? = some z := ⟨_, List.getElem?_eq_getElem (by rw [← NM.out]; omega)⟩
          have CU := Lib.hid (cell_below (IL.out p u hu) B.out)
          have CV := Lib.hid (cell_below (IM.out q z hz) B.out)
          have RU : Hid (U.reverse[j]? = some u) := by show _ = _; rw [rev_get NL.out.symm hp]; exact hu
          have RV : Hid (V.reverse[j]? = some z) := by show _ = _; rw [rev_get NM.out.symm hq]; exact hz
          have e1 : (nl : Int) - 1 - (j : Int) = (p : Int) := by omega
          have e2 : (nm : Int) - 1 - (j : Int) = (q : Int) := by omega
          have p0 : 0 ≤ (p : Int) := by omega
          have p1 : (p : Int) < (nl : Int) := by omega
          have q0 : 0 ≤ (q : Int) := by omega
          have q1 : (q : Int) < (nm : Int) := by omega
          clear hp hq hu hz
          by_cases huz : u = z
          · have e3 : (u == z) = true := by rw [beq_iff_eq]; exact huz
            have HUZ := Lib.hid huz
            clear huz
            go_upto_region 8 with fail
            refine wp_region_held_drew (S := (fun w' => Below wr.heap.size wr w')) (by kernel_rfl) (Below.drew (Below.refl _ _)) (fun hHeld => ?_)
            generalize hwd : wr.drew = wd at  hHeld ⊢
            clear hwd
            refine held_take (i := 0) (v := (.int .i64 (j : Int))) rfl (by kernel_rfl) (by kernel_rfl) (by kernel_rfl) (fun _ _ _ h => h) (Or.inl ⟨by rfl, fun w' _ => by kernel_rfl⟩) hHeld ?_
            go_frame
            refine held_take (i := 1) (v := (.slice (some ⟨gl, ol, none⟩) nl cl)) rfl (by kernel_rfl) (by kernel_rfl) (by kernel_rfl) (fun _ _ _ h => h) (Or.inl ⟨by rfl, fun w' _ => by kernel_rfl⟩) hHeld ?_
            go_frame
            refine held_take (i := 2) (v := (.int .i64 (nl : Int))) rfl (by kernel_rfl) (by kernel_rfl) (by kernel_rfl) (fun _ _ _ h => h) (Or.inl ⟨by rfl, fun w' _ => by go_simp⟩) hHeld ?_
            go_frame
            refine held_take (i := 3) (v := (.bool true)) rfl (by kernel_rfl) (by kernel_rfl) (by kernel_rfl) (fun _ _ _ h => h) (Or.inl ⟨by rfl, fun w' _ => by go_simp⟩) hHeld ?_
            go_frame
            refine held_take (i := 4) (v := (.bool true)) rfl (by kernel_rfl) (by kernel_rfl) (by kernel_rfl) (fun _ _ _ h => h) (Or.inl ⟨by rfl, fun w' _ => by kernel_rfl⟩) hHeld ?_
            go_frame
            refine held_take (i := 5) (v := (.int .i64 (j : Int))) rfl (by kernel_rfl) (by kernel_rfl) (by kernel_rfl) (fun _ _ _ h => h) (Or.inl ⟨by rfl, fun w' _ => by kernel_rfl⟩) hHeld ?_
            go_frame
            refine held_take (i := 6) (v := (.slice (some ⟨gm, om, none⟩) nm cm)) rfl (by kernel_rfl) (by kernel_rfl) (by kernel_rfl) (fun _ _ _ h => h) (Or.inl ⟨by rfl, fun w' _ => by kernel_rfl⟩) hHeld ?_
            go_frame
            refine held_take (i := 7) (v := (.int .i64 (nm : Int))) rfl (by kernel_rfl) (by kernel_rfl) (by kernel_rfl) (fun _ _ _ h => h) (Or.inl ⟨by rfl, fun w' _ => by go_simp⟩) hHeld ?_
            go_frame
            refine held_take (i := 8) (v := (.bool true)) rfl (by kernel_rfl) (by kernel_rfl) (by kernel_rfl) (fun _ _ _ h => h) (Or.inl ⟨by rfl, fun w' _ => by go_simp⟩) hHeld ?_
            go_frame
            refine held_take (i := 9) (v := (.bool true)) rfl (by kernel_rfl) (by kernel_rfl) (by kernel_rfl) (fun _ _ _ h => h) (Or.inl ⟨by rfl, fun w' _ => by go_simp⟩) hHeld ?_
            go_frame
            refine held_take (i := 10) (v := (.bool true)) rfl (by kernel_rfl) (by kernel_rfl) (by kernel_rfl) (fun _ _ _ h => h) (Or.inl ⟨by rfl, fun w' _ => by kernel_rfl⟩) hHeld ?_
            go_frame
            refine held_take (i := 11) (v := (.slice (some ⟨gl, ol, none⟩) nl cl)) rfl (by kernel_rfl) (by kernel_rfl) (by kernel_rfl) (fun _ _ _ h => h) (Or.inl ⟨by rfl, fun w' _ => by kernel_rfl⟩) hHeld ?_
            go_frame
            refine held_take (i := 12) (v := (.slice (some ⟨gl, ol, none⟩) nl cl)) rfl (by kernel_rfl) (by kernel_rfl) (by kernel_rfl) (fun _ _ _ h => h) (Or.inl ⟨by rfl, fun w' _ => by kernel_rfl⟩) hHeld ?_
            go_frame
            refine held_take (i := 13) (v := (.int .i64 (nl : Int))) rfl (by kernel_rfl) (by kernel_rfl) (by kernel_rfl) (fun _ _ _ h => h) (Or.inl ⟨by rfl, fun w' _ => by go_simp⟩) hHeld ?_
            go_frame
            refine held_take (i := 14) (v := (.int .i64 ((nl : Int) - 1))) rfl (by kernel_rfl) (by kernel_rfl) (by kernel_rfl) (fun _ _ _ h => h) (Or.inl ⟨by rfl, fun w' _ => by go_simp <;> (try rw [IntKind.wrap_i64]) <;> omega⟩) hHeld ?_
            go_frame
            refine held_take (i := 15) (v := (.int .i64 (j : Int))) rfl (by kernel_rfl) (by kernel_rfl) (by kernel_rfl) (fun _ _ _ h => h) (Or.inl ⟨by rfl, fun w' _ => by kernel_rfl⟩) hHeld ?_
            go_frame
            refine held_take (i := 16) (v := (.int .i64 (p : Int))) rfl (by kernel_rfl) (by kernel_rfl) (by kernel_rfl) (fun _ _ _ h => h) (Or.inl ⟨by rfl, fun w' _ => by go_simp <;> (try rw [IntKind.wrap_i64]) <;> omega⟩) hHeld ?_
            go_frame
            refine held_take (i := 17) (v := (.pointer (some ⟨gl, ol + p, none⟩))) rfl (by kernel_rfl) (by kernel_rfl) (by kernel_rfl) (fun _ _ _ h => h) (Or.inl ⟨by rfl, fun w' _ => by go_simp⟩) hHeld ?_
            go_frame
            refine held_take (i := 18) (v := (.int .i64 u)) rfl (by kernel_rfl) (by kernel_rfl) (by kernel_rfl) (fun _ _ _ h => h) (yieldsIf_load_one (by rfl) 3 (.tmp 55) rfl gl (ol + p) rfl _ _ (fun w' hw' => cell_below CU.out hw') Tryz.underlying3 rfl) hHeld ?_
            go_frame
            refine held_take (i := 19) (v := (.slice (some ⟨gm, om, none⟩) nm cm)) rfl (by kernel_rfl) (by kernel_rfl) (by kernel_rfl) (fun _ _ _ h => h) (Or.inl ⟨by rfl, fun w' _ => by kernel_rfl⟩) hHeld ?_
            go_frame
            refine held_take (i := 20) (v := (.slice (some ⟨gm, om, none⟩) nm cm)) rfl (by kernel_rfl) (by kernel_rfl) (by kernel_rfl) (fun _ _ _ h => h) (Or.inl ⟨by rfl, fun w' _ => by kernel_rfl⟩) hHeld ?_
            go_frame
            refine held_take (i := 21) (v := (.int .i64 (nm : Int))) rfl (by kernel_rfl) (by kernel_rfl) (by kernel_rfl) (fun _ _ _ h => h) (Or.inl ⟨by rfl, fun w' _ => by go_simp⟩) hHeld ?_
            go_frame
            refine held_take (i := 22) (v := (.int .i64 ((nm : Int) - 1))) rfl (by kernel_rfl) (by kernel_rfl) (by kernel_rfl) (fun _ _ _ h => h) (Or.inl ⟨by rfl, fun w' _ => by go_simp <;> (try rw [IntKind.wrap_i64]) <;> omega⟩) hHeld ?_
            go_frame
            refine held_take (i := 23) (v := (.int .i64 (j : Int))) rfl (by kernel_rfl) (by kernel_rfl) (by kernel_rfl) (fun _ _ _ h => h) (Or.inl ⟨by rfl, fun w' _ => by kernel_rfl⟩) hHeld ?_
            go_frame
            refine held_take (i := 24) (v := (.int .i64 (q : Int))) rfl (by kernel_rfl) (by kernel_rfl) (by kernel_rfl) (fun _ _ _ h => h) (Or.inl ⟨by rfl, fun w' _ => by go_simp <;> (try rw [IntKind.wrap_i64]) <;> omega⟩) hHeld ?_
            go_frame
            refine held_take (i := 25) (v := (.pointer (some ⟨gm, om + q, none⟩))) rfl (by kernel_rfl) (by kernel_rfl) (by kernel_rfl) (fun _ _ _ h => h) (Or.inl ⟨by rfl, fun w' _ => by go_simp⟩) hHeld ?_
            go_frame
            refine held_take (i := 26) (v := (.int .i64 z)) rfl (by kernel_rfl) (by kernel_rfl) (by kernel_rfl) (fun _ _ _ h => h) (yieldsIf_load_one (by rfl) 3 (.tmp 63) rfl gm (om + q) rfl _ _ (fun w' hw' => cell_below CV.out hw') Tryz.underlying3 rfl) hHeld ?_
            go_frame
            refine held_take (i := 27) (v := (.bool true)) rfl (by kernel_rfl) (by kernel_rfl) (by kernel_rfl) (fun _ _ _ h => h) (Or.inl ⟨by rfl, fun w' _ => by go_simp⟩) hHeld ?_
            go_frame
            refine held_take (i := 28) (v := (.bool true)) rfl (by kernel_rfl) (by kernel_rfl) (by kernel_rfl) (fun _ _ _ h => h) (Or.inl ⟨by rfl, fun w' _ => by go_simp⟩) hHeld ?_
            go_frame
            refine wpAnyH_done (by kernel_rfl) ?_ _
            have BW := Lib.hid (B.out.trans (hHeld.mono B.out.size))
            clear hHeld
            go_wp2_with fail
            go_roundw
            case rel =>
              refine ⟨j + 1, by go_num, by omega, by omega, fun i hi => ?_, BW.out⟩
              rcases Nat.lt_or_eq_of_le (Nat.lt_succ_iff.1 hi) with h | rfl
              · exact AL.out i h
              · rw [RU.out, RV.out, HUZ.out]
            case measure => simp [intOf] <;> omega
          · have e3 : (u == z) = false := by rw [beq_eq_false_iff_ne]; exact huz
            have EX : Hid (kc = j) := by
              show _ = _
              rw [CPE.out]
              exact comP_at _ _ j (by rw [List.length_reverse, ← NL.out]; omega) (by rw [List.length_reverse, ← NM.out]; omega) AL.out (.inr (.inr (by rw [RU.out, RV.out]; exact fun e => huz (Option.some.inj e))))
            clear huz
            go_upto_region 8 with fail
            refine wp_region_held_drew (S := (fun w' => Below wr.heap.size wr w')) (by kernel_rfl) (Below.drew (Below.refl _ _)) (fun hHeld => ?_)
            generalize hwd : wr.drew = wd at  hHeld ⊢
            clear hwd
            refine held_take (i := 0) (v := (.int .i64 (j : Int))) rfl (by kernel_rfl) (by kernel_rfl) (by kernel_rfl) (fun _ _ _ h => h) (Or.inl ⟨by rfl, fun w' _ => by kernel_rfl⟩) hHeld ?_
            go_frame
            refine held_take (i := 1) (v := (.slice (some ⟨gl, ol, none⟩) nl cl)) rfl (by kernel_rfl) (by kernel_rfl) (by kernel_rfl) (fun _ _ _ h => h) (Or.inl ⟨by rfl, fun w' _ => by kernel_rfl⟩) hHeld ?_
            go_frame
            refine held_take (i := 2) (v := (.int .i64 (nl : Int))) rfl (by kernel_rfl) (by kernel_rfl) (by kernel_rfl) (fun _ _ _ h => h) (Or.inl ⟨by rfl, fun w' _ => by go_simp⟩) hHeld ?_
            go_frame
            refine held_take (i := 3) (v := (.bool true)) rfl (by kernel_rfl) (by kernel_rfl) (by kernel_rfl) (fun _ _ _ h => h) (Or.inl ⟨by rfl, fun w' _ => by go_simp⟩) hHeld ?_
            go_frame
            refine held_take (i := 4) (v := (.bool true)) rfl (by kernel_rfl) (by kernel_rfl) (by kernel_rfl) (fun _ _ _ h => h) (Or.inl ⟨by rfl, fun w' _ => by kernel_rfl⟩) hHeld ?_
            go_frame
            refine held_take (i := 5) (v := (.int .i64 (j : Int))) rfl (by kernel_rfl) (by kernel_rfl) (by kernel_rfl) (fun _ _ _ h => h) (Or.inl ⟨by rfl, fun w' _ => by kernel_rfl⟩) hHeld ?_
            go_frame
            refine held_take (i := 6) (v := (.slice (some ⟨gm, om, none⟩) nm cm)) rfl (by kernel_rfl) (by kernel_rfl) (by kernel_rfl) (fun _ _ _ h => h) (Or.inl ⟨by rfl, fun w' _ => by kernel_rfl⟩) hHeld ?_
            go_frame
            refine held_take (i := 7) (v := (.int .i64 (nm : Int))) rfl (by kernel_rfl) (by kernel_rfl) (by kernel_rfl) (fun _ _ _ h => h) (Or.inl ⟨by rfl, fun w' _ => by go_simp⟩) hHeld ?_
            go_frame
            refine held_take (i := 8) (v := (.bool true)) rfl (by kernel_rfl) (by kernel_rfl) (by kernel_rfl) (fun _ _ _ h => h) (Or.inl ⟨by rfl, fun w' _ => by go_simp⟩) hHeld ?_
            go_frame
            refine held_take (i := 9) (v := (.bool true)) rfl (by kernel_rfl) (by kernel_rfl) (by kernel_rfl) (fun _ _ _ h => h) (Or.inl ⟨by rfl, fun w' _ => by go_simp⟩) hHeld ?_
            go_frame
            refine held_take (i := 10) (v := (.bool true)) rfl (by kernel_rfl) (by kernel_rfl) (by kernel_rfl) (fun _ _ _ h => h) (Or.inl ⟨by rfl, fun w' _ => by kernel_rfl⟩) hHeld ?_
            go_frame
            refine held_take (i := 11) (v := (.slice (some ⟨gl, ol, none⟩) nl cl)) rfl (by kernel_rfl) (by kernel_rfl) (by kernel_rfl) (fun _ _ _ h => h) (Or.inl ⟨by rfl, fun w' _ => by kernel_rfl⟩) hHeld ?_
            go_frame
            refine held_take (i := 12) (v := (.slice (some ⟨gl, ol, none⟩) nl cl)) rfl (by kernel_rfl) (by kernel_rfl) (by kernel_rfl) (fun _ _ _ h => h) (Or.inl ⟨by rfl, fun w' _ => by kernel_rfl⟩) hHeld ?_
            go_frame
            refine held_take (i := 13) (v := (.int .i64 (nl : Int))) rfl (by kernel_rfl) (by kernel_rfl) (by kernel_rfl) (fun _ _ _ h => h) (Or.inl ⟨by rfl, fun w' _ => by go_simp⟩) hHeld ?_
            go_frame
            refine held_take (i := 14) (v := (.int .i64 ((nl : Int) - 1))) rfl (by kernel_rfl) (by kernel_rfl) (by kernel_rfl) (fun _ _ _ h => h) (Or.inl ⟨by rfl, fun w' _ => by go_simp <;> (try rw [IntKind.wrap_i64]) <;> omega⟩) hHeld ?_
            go_frame
            refine held_take (i := 15) (v := (.int .i64 (j : Int))) rfl (by kernel_rfl) (by kernel_rfl) (by kernel_rfl) (fun _ _ _ h => h) (Or.inl ⟨by rfl, fun w' _ => by kernel_rfl⟩) hHeld ?_
            go_frame
            refine held_take (i := 16) (v := (.int .i64 (p : Int))) rfl (by kernel_rfl) (by kernel_rfl) (by kernel_rfl) (fun _ _ _ h => h) (Or.inl ⟨by rfl, fun w' _ => by go_simp <;> (try rw [IntKind.wrap_i64]) <;> omega⟩) hHeld ?_
            go_frame
            refine held_take (i := 17) (v := (.pointer (some ⟨gl, ol + p, none⟩))) rfl (by kernel_rfl) (by kernel_rfl) (by kernel_rfl) (fun _ _ _ h => h) (Or.inl ⟨by rfl, fun w' _ => by go_simp⟩) hHeld ?_
            go_frame
            refine held_take (i := 18) (v := (.int .i64 u)) rfl (by kernel_rfl) (by kernel_rfl) (by kernel_rfl) (fun _ _ _ h => h) (yieldsIf_load_one (by rfl) 3 (.tmp 55) rfl gl (ol + p) rfl _ _ (fun w' hw' => cell_below CU.out hw') Tryz.underlying3 rfl) hHeld ?_
            go_frame
            refine held_take (i := 19) (v := (.slice (some ⟨gm, om, none⟩) nm cm)) rfl (by kernel_rfl) (by kernel_rfl) (by kernel_rfl) (fun _ _ _ h => h) (Or.inl ⟨by rfl, fun w' _ => by kernel_rfl⟩) hHeld ?_
            go_frame
            refine held_take (i := 20) (v := (.slice (some ⟨gm, om, none⟩) nm cm)) rfl (by kernel_rfl) (by kernel_rfl) (by kernel_rfl) (fun _ _ _ h => h) (Or.inl ⟨by rfl, fun w' _ => by kernel_rfl⟩) hHeld ?_
            go_frame
            refine held_take (i := 21) (v := (.int .i64 (nm : Int))) rfl (by kernel_rfl) (by kernel_rfl) (by kernel_rfl) (fun _ _ _ h => h) (Or.inl ⟨by rfl, fun w' _ => by go_simp⟩) hHeld ?_
            go_frame
            refine held_take (i := 22) (v := (.int .i64 ((nm : Int) - 1))) rfl (by kernel_rfl) (by kernel_rfl) (by kernel_rfl) (fun _ _ _ h => h) (Or.inl ⟨by rfl, fun w' _ => by go_simp <;> (try rw [IntKind.wrap_i64]) <;> omega⟩) hHeld ?_
            go_frame
            refine held_take (i := 23) (v := (.int .i64 (j : Int))) rfl (by kernel_rfl) (by kernel_rfl) (by kernel_rfl) (fun _ _ _ h => h) (Or.inl ⟨by rfl, fun w' _ => by kernel_rfl⟩) hHeld ?_
            go_frame
            refine held_take (i := 24) (v := (.int .i64 (q : Int))) rfl (by kernel_rfl) (by kernel_rfl) (by kernel_rfl) (fun _ _ _ h => h) (Or.inl ⟨by rfl, fun w' _ => by go_simp <;> (try rw [IntKind.wrap_i64]) <;> omega⟩) hHeld ?_
            go_frame
            refine held_take (i := 25) (v := (.pointer (some ⟨gm, om + q, none⟩))) rfl (by kernel_rfl) (by kernel_rfl) (by kernel_rfl) (fun _ _ _ h => h) (Or.inl ⟨by rfl, fun w' _ => by go_simp⟩) hHeld ?_
            go_frame
            refine held_take (i := 26) (v := (.int .i64 z)) rfl (by kernel_rfl) (by kernel_rfl) (by kernel_rfl) (fun _ _ _ h => h) (yieldsIf_load_one (by rfl) 3 (.tmp 63) rfl gm (om + q) rfl _ _ (fun w' hw' => cell_below CV.out hw') Tryz.underlying3 rfl) hHeld ?_
            go_frame
            refine held_take (i := 27) (v := (.bool false)) rfl (by kernel_rfl) (by kernel_rfl) (by kernel_rfl) (fun _ _ _ h => h) (Or.inl ⟨by rfl, fun w' _ => by go_simp⟩) hHeld ?_
            go_frame
            refine held_take (i := 28) (v := (.bool false)) rfl (by kernel_rfl) (by kernel_rfl) (by kernel_rfl) (fun _ _ _ h => h) (Or.inl ⟨by rfl, fun w' _ => by go_simp⟩) hHeld ?_
            go_frame
            refine wpAnyH_done (by kernel_rfl) ?_ _
            have BW := Lib.hid (B.out.trans (hHeld.mono B.out.size))
            clear hHeld
            go_wp2_with fail
            go_meet
            case rel => exact ⟨congrArg (Value.int .i64) (by have := EX.out; omega), BW.out⟩
        · have d2 : ¬ (j : Int) < (nm : Int) := by omega
          have EX : Hid (kc = j) := by
            show _ = _
            rw [CPE.out]
            exact comP_at _ _ j (by rw [List.length_reverse, ← NL.out]; omega) (by rw [List.length_reverse, ← NM.out]; omega) AL.out (.inr (.inl (by rw [List.length_reverse, ← NM.out]; omega)))
          go_upto_region 8 with fail
          refine wp_region_held_drew (S := (fun w' => Below wr.heap.size wr w')) (by kernel_rfl) (Below.drew (Below.refl _ _)) (fun hHeld => ?_)
          generalize hwd : wr.drew = wd at  hHeld ⊢
          clear hwd
          refine held_take (i := 0) (v := (.int .i64 (j : Int))) rfl (by kernel_rfl) (by kernel_rfl) (by kernel_rfl) (fun _ _ _ h => h) (Or.inl ⟨by rfl, fun w' _ => by kernel_rfl⟩) hHeld ?_
          go_frame
          refine held_take (i := 1) (v := (.slice (some ⟨gl, ol, none⟩) nl cl)) rfl (by kernel_rfl) (by kernel_rfl) (by kernel_rfl) (fun _ _ _ h => h) (Or.inl ⟨by rfl, fun w' _ => by kernel_rfl⟩) hHeld ?_
          go_frame
          refine held_take (i := 2) (v := (.int .i64 (nl : Int))) rfl (by kernel_rfl) (by kernel_rfl) (by kernel_rfl) (fun _ _ _ h => h) (Or.inl ⟨by rfl, fun w' _ => by go_simp⟩) hHeld ?_
          go_frame
          refine held_take (i := 3) (v := (.bool true)) rfl (by kernel_rfl) (by kernel_rfl) (by kernel_rfl) (fun _ _ _ h => h) (Or.inl ⟨by rfl, fun w' _ => by go_simp⟩) hHeld ?_
          go_frame
          refine held_take (i := 4) (v := (.bool true)) rfl (by kernel_rfl) (by kernel_rfl) (by kernel_rfl) (fun _ _ _ h => h) (Or.inl ⟨by rfl, fun w' _ => by kernel_rfl⟩) hHeld ?_
          go_frame
          refine held_take (i := 5) (v := (.int .i64 (j : Int))) rfl (by kernel_rfl) (by kernel_rfl) (by kernel_rfl) (fun _ _ _ h => h) (Or.inl ⟨by rfl, fun w' _ => by kernel_rfl⟩) hHeld ?_
          go_frame
          refine held_take (i := 6) (v := (.slice (some ⟨gm, om, none⟩) nm cm)) rfl (by kernel_rfl) (by kernel_rfl) (by kernel_rfl) (fun _ _ _ h => h) (Or.inl ⟨by rfl, fun w' _ => by kernel_rfl⟩) hHeld ?_
          go_frame
          refine held_take (i := 7) (v := (.int .i64 (nm : Int))) rfl (by kernel_rfl) (by kernel_rfl) (by kernel_rfl) (fun _ _ _ h => h) (Or.inl ⟨by rfl, fun w' _ => by go_simp⟩) hHeld ?_
          go_frame
          refine held_take (i := 8) (v := (.bool false)) rfl (by kernel_rfl) (by kernel_rfl) (by kernel_rfl) (fun _ _ _ h => h) (Or.inl ⟨by rfl, fun w' _ => by go_simp⟩) hHeld ?_
          go_frame
          refine held_take (i := 9) (v := (.bool false)) rfl (by kernel_rfl) (by kernel_rfl) (by kernel_rfl) (fun _ _ _ h => h) (Or.inl ⟨by rfl, fun w' _ => by go_simp⟩) hHeld ?_
          go_frame
          refine held_take (i := 10) (v := (.bool false)) rfl (by kernel_rfl) (by kernel_rfl) (by kernel_rfl) (fun _ _ _ h => h) (Or.inl ⟨by rfl, fun w' _ => by kernel_rfl⟩) hHeld ?_
          go_frame
          refine held_take (i := 11) (v := undef) rfl (by kernel_rfl) (by kernel_rfl) (by kernel_rfl) (fun _ _ _ h => h) (Or.inr ⟨by rfl, rfl⟩) hHeld ?_
          go_frame
          refine held_take (i := 12) (v := undef) rfl (by kernel_rfl) (by kernel_rfl) (by kernel_rfl) (fun _ _ _ h => h) (Or.inr ⟨by rfl, rfl⟩) hHeld ?_
          go_frame
          refine held_take (i := 13) (v := undef) rfl (by kernel_rfl) (by kernel_rfl) (by kernel_rfl) (fun _ _ _ h => h) (Or.inr ⟨by rfl, rfl⟩) hHeld ?_
          go_frame
          refine held_take (i := 14) (v := undef) rfl (by kernel_rfl) (by kernel_rfl) (by kernel_rfl) (fun _ _ _ h => h) (Or.inr ⟨by rfl, rfl⟩) hHeld ?_
          go_frame
          refine held_take (i := 15) (v := undef) rfl (by kernel_rfl) (by kernel_rfl) (by kernel_rfl) (fun _ _ _ h => h) (Or.inr ⟨by rfl, rfl⟩) hHeld ?_
          go_frame
          refine held_take (i := 16) (v := undef) rfl (by kernel_rfl) (by kernel_rfl) (by kernel_rfl) (fun _ _ _ h => h) (Or.inr ⟨by rfl, rfl⟩) hHeld ?_
          go_frame
          refine held_take (i := 17) (v := undef) rfl (by kernel_rfl) (by kernel_rfl) (by kernel_rfl) (fun _ _ _ h => h) (Or.inr ⟨by rfl, rfl⟩) hHeld ?_
          go_frame
          refine held_take (i := 18) (v := undef) rfl (by kernel_rfl) (by kernel_rfl) (by kernel_rfl) (fun _ _ _ h => h) (Or.inr ⟨by rfl, rfl⟩) hHeld ?_
          go_frame
          refine held_take (i := 19) (v := undef) rfl (by kernel_rfl) (by kernel_rfl) (by kernel_rfl) (fun _ _ _ h => h) (Or.inr ⟨by rfl, rfl⟩) hHeld ?_
          go_frame
          refine held_take (i := 20) (v := undef) rfl (by kernel_rfl) (by kernel_rfl) (by kernel_rfl) (fun _ _ _ h => h) (Or.inr ⟨by rfl, rfl⟩) hHeld ?_
          go_frame
          refine held_take (i := 21) (v := undef) rfl (by kernel_rfl) (by kernel_rfl) (by kernel_rfl) (fun _ _ _ h => h) (Or.inr ⟨by rfl, rfl⟩) hHeld ?_
          go_frame
          refine held_take (i := 22) (v := undef) rfl (by kernel_rfl) (by kernel_rfl) (by kernel_rfl) (fun _ _ _ h => h) (Or.inr ⟨by rfl, rfl⟩) hHeld ?_
          go_frame
          refine held_take (i := 23) (v := undef) rfl (by kernel_rfl) (by kernel_rfl) (by kernel_rfl) (fun _ _ _ h => h) (Or.inr ⟨by rfl, rfl⟩) hHeld ?_
          go_frame
          refine held_take (i := 24) (v := undef) rfl (by kernel_rfl) (by kernel_rfl) (by kernel_rfl) (fun _ _ _ h => h) (Or.inr ⟨by rfl, rfl⟩) hHeld ?_
          go_frame
          refine held_take (i := 25) (v := undef) rfl (by kernel_rfl) (by kernel_rfl) (by kernel_rfl) (fun _ _ _ h => h) (Or.inr ⟨by rfl, rfl⟩) hHeld ?_
          go_frame
          refine held_take (i := 26) (v := undef) rfl (by kernel_rfl) (by kernel_rfl) (by kernel_rfl) (fun _ _ _ h => h) (Or.inr ⟨by rfl, rfl⟩) hHeld ?_
          go_frame
          refine held_take (i := 27) (v := undef) rfl (by kernel_rfl) (by kernel_rfl) (by kernel_rfl) (fun _ _ _ h => h) (Or.inr ⟨by rfl, rfl⟩) hHeld ?_
          go_frame
          refine held_take (i := 28) (v := (.bool false)) rfl (by kernel_rfl) (by kernel_rfl) (by kernel_rfl) (fun _ _ _ h => h) (Or.inl ⟨by rfl, fun w' _ => by go_simp⟩) hHeld ?_
          go_frame
          refine wpAnyH_done (by kernel_rfl) ?_ _
          have BW := Lib.hid (B.out.trans (hHeld.mono B.out.size))
          clear hHeld
          go_wp2_with fail
          go_meet
          case rel => exact ⟨congrArg (Value.int .i64) (by have := EX.out; omega), BW.out⟩
      · have d1 : ¬ (j : Int) < (nl : Int) := by omega
        have EX : Hid (kc = j) := by
          show _ = _
          rw [CPE.out]
          exact comP_at _ _ j (by rw [List.length_reverse, ← NL.out]; omega) (by rw [List.length_reverse, ← NM.out]; omega) AL.out (.inl (by rw [List.length_reverse, ← NL.out]; omega))
        go_upto_region 8 with fail
        refine wp_region_held_drew (S := (fun w' => Below wr.heap.size wr w')) (by kernel_rfl) (Below.drew (Below.refl _ _)) (fun hHeld => ?_)
        generalize hwd : wr.drew = wd at  hHeld ⊢
        clear hwd
        refine held_take (i := 0) (v := (.int .i64 (j : Int))) rfl (by kernel_rfl) (by kernel_rfl) (by kernel_rfl) (fun _ _ _ h => h) (Or.inl ⟨by rfl, fun w' _ => by kernel_rfl⟩) hHeld ?_
        go_frame
        refine held_take (i := 1) (v := (.slice (some ⟨gl, ol, none⟩) nl cl)) rfl (by kernel_rfl) (by kernel_rfl) (by kernel_rfl) (fun _ _ _ h => h) (Or.inl ⟨by rfl, fun w' _ => by kernel_rfl⟩) hHeld ?_
        go_frame
        refine held_take (i := 2) (v := (.int .i64 (nl : Int))) rfl (by kernel_rfl) (by kernel_rfl) (by kernel_rfl) (fun _ _ _ h => h) (Or.inl ⟨by rfl, fun w' _ => by go_simp⟩) hHeld ?_
        go_frame
        refine held_take (i := 3) (v := (.bool false)) rfl (by kernel_rfl) (by kernel_rfl) (by kernel_rfl) (fun _ _ _ h => h) (Or.inl ⟨by rfl, fun w' _ => by go_simp⟩) hHeld ?_
        go_frame
        refine held_take (i := 4) (v := (.bool false)) rfl (by kernel_rfl) (by kernel_rfl) (by kernel_rfl) (fun _ _ _ h => h) (Or.inl ⟨by rfl, fun w' _ => by kernel_rfl⟩) hHeld ?_
        go_frame
        refine held_take (i := 5) (v := undef) rfl (by kernel_rfl) (by kernel_rfl) (by kernel_rfl) (fun _ _ _ h => h) (Or.inr ⟨by rfl, rfl⟩) hHeld ?_
        go_frame
        refine held_take (i := 6) (v := undef) rfl (by kernel_rfl) (by kernel_rfl) (by kernel_rfl) (fun _ _ _ h => h) (Or.inr ⟨by rfl, rfl⟩) hHeld ?_
        go_frame
        refine held_take (i := 7) (v := undef) rfl (by kernel_rfl) (by kernel_rfl) (by kernel_rfl) (fun _ _ _ h => h) (Or.inr ⟨by rfl, rfl⟩) hHeld ?_
        go_frame
        refine held_take (i := 8) (v := undef) rfl (by kernel_rfl) (by kernel_rfl) (by kernel_rfl) (fun _ _ _ h => h) (Or.inr ⟨by rfl, rfl⟩) hHeld ?_
        go_frame
        refine held_take (i := 9) (v := (.bool false)) rfl (by kernel_rfl) (by kernel_rfl) (by kernel_rfl) (fun _ _ _ h => h) (Or.inl ⟨by rfl, fun w' _ => by go_simp⟩) hHeld ?_
        go_frame
        refine held_take (i := 10) (v := (.bool false)) rfl (by kernel_rfl) (by kernel_rfl) (by kernel_rfl) (fun _ _ _ h => h) (Or.inl ⟨by rfl, fun w' _ => by kernel_rfl⟩) hHeld ?_
        go_frame
        refine held_take (i := 11) (v := undef) rfl (by kernel_rfl) (by kernel_rfl) (by kernel_rfl) (fun _ _ _ h => h) (Or.inr ⟨by rfl, rfl⟩) hHeld ?_
        go_frame
        refine held_take (i := 12) (v := undef) rfl (by kernel_rfl) (by kernel_rfl) (by kernel_rfl) (fun _ _ _ h => h) (Or.inr ⟨by rfl, rfl⟩) hHeld ?_
        go_frame
        refine held_take (i := 13) (v := undef) rfl (by kernel_rfl) (by kernel_rfl) (by kernel_rfl) (fun _ _ _ h => h) (Or.inr ⟨by rfl, rfl⟩) hHeld ?_
        go_frame
        refine held_take (i := 14) (v := undef) rfl (by kernel_rfl) (by kernel_rfl) (by kernel_rfl) (fun _ _ _ h => h) (Or.inr ⟨by rfl, rfl⟩) hHeld ?_
        go_frame
        refine held_take (i := 15) (v := undef) rfl (by kernel_rfl) (by kernel_rfl) (by kernel_rfl) (fun _ _ _ h => h) (Or.inr ⟨by rfl, rfl⟩) hHeld ?_
        go_frame
        refine held_take (i := 16) (v := undef) rfl (by kernel_rfl) (by kernel_rfl) (by kernel_rfl) (fun _ _ _ h => h) (Or.inr ⟨by rfl, rfl⟩) hHeld ?_
        go_frame
        refine held_take (i := 17) (v := undef) rfl (by kernel_rfl) (by kernel_rfl) (by kernel_rfl) (fun _ _ _ h => h) (Or.inr ⟨by rfl, rfl⟩) hHeld ?_
        go_frame
        refine held_take (i := 18) (v := undef) rfl (by kernel_rfl) (by kernel_rfl) (by kernel_rfl) (fun _ _ _ h => h) (Or.inr ⟨by rfl, rfl⟩) hHeld ?_
        go_frame
        refine held_take (i := 19) (v := undef) rfl (by kernel_rfl) (by kernel_rfl) (by kernel_rfl) (fun _ _ _ h => h) (Or.inr ⟨by rfl, rfl⟩) hHeld ?_
        go_frame
        refine held_take (i := 20) (v := undef) rfl (by kernel_rfl) (by kernel_rfl) (by kernel_rfl) (fun _ _ _ h => h) (Or.inr ⟨by rfl, rfl⟩) hHeld ?_
        go_frame
        refine held_take (i := 21) (v := undef) rfl (by kernel_rfl) (by kernel_rfl) (by kernel_rfl) (fun _ _ _ h => h) (Or.inr ⟨by rfl, rfl⟩) hHeld ?_
        go_frame
        refine held_take (i := 22) (v := undef) rfl (by kernel_rfl) (by kernel_rfl) (by kernel_rfl) (fun _ _ _ h => h) (Or.inr ⟨by rfl, rfl⟩) hHeld ?_
        go_frame
        refine held_take (i := 23) (v := undef) rfl (by kernel_rfl) (by kernel_rfl) (by kernel_rfl) (fun _ _ _ h => h) (Or.inr ⟨by rfl, rfl⟩) hHeld ?_
        go_frame
        refine held_take (i := 24) (v := undef) rfl (by kernel_rfl) (by kernel_rfl) (by kernel_rfl) (fun _ _ _ h => h) (Or.inr ⟨by rfl, rfl⟩) hHeld ?_
        go_frame
        refine held_take (i := 25) (v := undef) rfl (by kernel_rfl) (by kernel_rfl) (by kernel_rfl) (fun _ _ _ h => h) (Or.inr ⟨by rfl, rfl⟩) hHeld ?_
        go_frame
        refine held_take (i := 26) (v := undef) rfl (by kernel_rfl) (by kernel_rfl) (by kernel_rfl) (fun _ _ _ h => h) (Or.inr ⟨by rfl, rfl⟩) hHeld ?_
        go_frame
        refine held_take (i := 27) (v := undef) rfl (by kernel_rfl) (by kernel_rfl) (by kernel_rfl) (fun _ _ _ h => h) (Or.inr ⟨by rfl, rfl⟩) hHeld ?_
        go_frame
        refine held_take (i := 28) (v := (.bool false)) rfl (by kernel_rfl) (by kernel_rfl) (by kernel_rfl) (fun _ _ _ h => h) (Or.inl ⟨by rfl, fun w' _ => by go_simp⟩) hHeld ?_
        go_frame
        refine wpAnyH_done (by kernel_rfl) ?_ _
        have BW := Lib.hid (B.out.trans (hHeld.mono B.out.size))
        clear hHeld
        go_wp2_with fail
        go_meet
        case rel => exact ⟨congrArg (Value.int .i64) (by have := EX.out; omega), BW.out⟩
  case rest =>
    obtain ⟨rfl, hb5⟩ := hcut
    have B := Lib.hid hb5
    clear hb5
    have cle := comP_le U.reverse V.reverse
    rw [← CPE.out, List.length_reverse, List.length_reverse, ← NL.out, ← NM.out] at cle
    obtain ⟨nb, hnb⟩ : ∃ nb, nb + kc = nl := ⟨nl - kc, by omega⟩
    obtain ⟨nc, hnc⟩ : ∃ nc, nc + kc = nm := ⟨nm - kc, by omega⟩
    have e1 : (nl : Int) - (kc : Int) = (nb : Int) := by omega
    have e2 : (nm : Int) - (kc : Int) = (nc : Int) := by omega
    have HNB := Lib.hid hnb
    have HNC := Lib.hid hnc
    clear cle hnb hnc
    go_wp2_with fail
    go_loopw [15, 17] (fun vb vi wz => PaI2 L U nb w5 vb vi wz) (fun _ vi _ => nb - (intOf vi).toNat)
    case atStart => exact ⟨0, _, rfl, rfl, Nat.zero_le _, HsOwn.nil _ _, B.out⟩
    case round =>
      clear B
      obtain ⟨i, bv, rfl, rfl, hi2, how, hb⟩ := hrel
      have OW := Lib.hid how
      have B := Lib.hid hb
      clear how hb
      by_cases hlt : i < nb
      · have hnb := HNB.out
        obtain ⟨uu, hu⟩ : ∃ uu, U[i]? = some uu := ⟨_, List.getElem?_eq_getElem (by rw [← NL.out]; omega)⟩
        have hub := UB.out uu (List.mem_of_getElem? hu)
        obtain ⟨un, rfl⟩ : ∃ un : Nat, uu = (un : Int) := ⟨uu.toNat, by omega⟩
        obtain ⟨x, hx⟩ : ∃ x, L[un]? = some x := ⟨_, List.getElem?_eq_getElem (by rw [← N.out]; omega)⟩
        have ox := OK.out x (List.mem_of_getElem? hx)
        have TC := Lib.hid (cell_below TC5.out B.out)
        have RI := Lib.hid (range_below (nd_id (HG.out un x hx)) B.out)
        have XD : (L.getD (un : Int).toNat ndZ).id = x.id := by rw [Int.toNat_natCast, List.getD_eq_getElem?_getD, hx]; rfl
        obtain ⟨ix, hix⟩ : ∃ ix, ix = x.id := ⟨_, rfl⟩
        rw [← hix] at RI XD
        have LX : Hid (ix.length = 32) := by show _ = _; rw [hix]; exact ox.1
        have LI : Hid ((ix.map bV).length = 32) := by show _ = _; rw [List.length_map]; exact LX.out
        have CO : Hid (∀ u ∈ ix.map bV, u.oneCell' = true) := fun u hu => by
          obtain ⟨y, _, rfl⟩ := List.mem_map.1 hu
          rfl
        obtain ⟨ci, hci⟩ : ∃ ci, ci = ix.map bV := ⟨_, rfl⟩
        rw [← hci] at RI LI CO
        have CIE := Lib.hid hci
        have CU := Lib.hid (cell_below (IL.out i _ hu) B.out)
        have u0 : 0 ≤ (un : Int) := hub.1
        have u1 : (un : Int) < (n : Int) := hub.2
        have TS : Hid (idsT L (U.take (i + 1)) = idsT L (U.take i) ++ [ix]) := by show _ = _; rw [idsT_succ hu, XD]
        have DL : Hid ((idsT L (U.take i)).length ≤ 4096) := by show _ ≤ _; unfold idsT; rw [List.length_map, List.length_take]; omega
        have i0' : 0 ≤ (i : Int) := by omega
        have i1 : (i : Int) < (nb : Int) := by omega
        have i2 : (i : Int) < (nl : Int) := by omega
        clear hu hub hx ox XD hix hci hnb
        go_upto_region 14 with fail
        refine wp_region_end (fun w' => Below wr.heap.size wr w') [13] (by kernel_rfl) (Below.drew (Below.refl _ _)) (fun hHeld => ?_)
        generalize hwd : wr.drew = wd at  hHeld ⊢
        clear hwd
        refine end_take (i := 0) (v := bv) rfl (by kernel_rfl) (by kernel_rfl) (by kernel_rfl) (by kernel_rfl) (fun _ _ _ h => h) (Or.inl ⟨by rfl, fun w' _ => by kernel_rfl⟩) hHeld ?_
        go_frame
        refine end_take (i := 1) (v := (.pointer (some ⟨a, 0, none⟩))) rfl (by kernel_rfl) (by kernel_rfl) (by kernel_rfl) (by kernel_rfl) (fun _ _ _ h => h) (Or.inl ⟨by rfl, fun w' _ => by kernel_rfl⟩) hHeld ?_
        go_frame
        refine end_take (i := 2) (v := (.pointer (some ⟨a, 0, none⟩))) rfl (by kernel_rfl) (by kernel_rfl) (by kernel_rfl) (by kernel_rfl) (fun _ _ _ h => h) (Or.inl ⟨by rfl, fun w' _ => by kernel_rfl⟩) hHeld ?_
        go_frame
        refine end_take (i := 3) (v := (.pointer (some ⟨a, 0, none⟩))) rfl (by kernel_rfl) (by kernel_rfl) (by kernel_rfl) (by kernel_rfl) (fun _ _ _ h => h) (Or.inl ⟨by rfl, fun w' _ => by kernel_rfl⟩) hHeld ?_
        go_frame
        refine end_take (i := 4) (v := (.slice (some ⟨bt, ot, none⟩) n cap)) rfl (by kernel_rfl) (by kernel_rfl) (by kernel_rfl) (by kernel_rfl) (fun _ _ _ h => h) (yieldsIf_load_one (by rfl) 79 (.tmp 80) rfl a (0) rfl _ _ (fun w' hw' => cell_below TC.out hw') Tryz.underlying79 rfl) hHeld ?_
        go_frame
        refine end_take (i := 5) (v := (.slice (some ⟨gl, ol, none⟩) nl cl)) rfl (by kernel_rfl) (by kernel_rfl) (by kernel_rfl) (by kernel_rfl) (fun _ _ _ h => h) (Or.inl ⟨by rfl, fun w' _ => by kernel_rfl⟩) hHeld ?_
        go_frame
        refine end_take (i := 6) (v := (.int .i64 (i : Int))) rfl (by kernel_rfl) (by kernel_rfl) (by kernel_rfl) (by kernel_rfl) (fun _ _ _ h => h) (Or.inl ⟨by rfl, fun w' _ => by kernel_rfl⟩) hHeld ?_
        go_frame
        refine end_take (i := 7) (v := (.pointer (some ⟨gl, ol + i, none⟩))) rfl (by kernel_rfl) (by kernel_rfl) (by kernel_rfl) (by kernel_rfl) (fun _ _ _ h => h) (Or.inl ⟨by rfl, fun w' _ => by go_simp⟩) hHeld ?_
        go_frame
        refine end_take (i := 8) (v := (.int .i64 (un : Int))) rfl (by kernel_rfl) (by kernel_rfl) (by kernel_rfl) (by kernel_rfl) (fun _ _ _ h => h) (yieldsIf_load_one (by rfl) 3 (.tmp 84) rfl gl (ol + i) rfl _ _ (fun w' hw' => cell_below CU.out hw') Tryz.underlying3 rfl) hHeld ?_
        go_frame
        refine end_take (i := 9) (v := (.pointer (some ⟨bt, ot + un * 104, none⟩))) rfl (by kernel_rfl) (by kernel_rfl) (by kernel_rfl) (by kernel_rfl) (fun _ _ _ h => h) (Or.inl ⟨by rfl, fun w' _ => by go_simp⟩) hHeld ?_
        go_frame
        refine end_take (i := 10) (v := (.pointer (some ⟨bt, ot + un * 104, none⟩))) rfl (by kernel_rfl) (by kernel_rfl) (by kernel_rfl) (by kernel_rfl) (fun _ _ _ h => h) (Or.inl ⟨by rfl, fun w' _ => by kernel_rfl⟩) hHeld ?_
        go_frame
        refine end_take (i := 11) (v := (.agg ci.toArray)) rfl (by kernel_rfl) (by kernel_rfl) (by kernel_rfl) (by kernel_rfl) (fun _ _ _ h => h) (Sha.yieldsIf_load_mid (by rfl) 25 (.tmp 87) rfl bt (ot + un * 104) rfl ci _ (fun w' hw' => range_below RI.out hw') Tryz.underlying25 rfl (by rw [LI.out]; kernel_rfl)) hHeld ?_
        go_frame
        refine end_next (i := 12) (by kernel_rfl) rfl (fun K hK => ?_)
        rw [if_pos (by rfl)]
        refine wp_slice_one 42 25 (.tmp 88) rfl ci rfl Tryz.underlying42 i0 _ hi hz0 (by rw [hz1, LI.out]) (by rw [LI.out]; omega) (by rw [LI.out]; omega) ?_
        have nf := heap_alloc_new wd (.cells ci.toArray 25 (0, 0))
        have bb := (Below.refl wd.heap.size wd).alloc (Nat.le_refl _) (.cells ci.toArray 25 (0, 0))
        obtain ⟨gv1, hgv1⟩ : ∃ g, g = wd.heap.size := ⟨_, rfl⟩
        generalize hqv1 : World.alloc _ _ = v1
        have ev1 : wd.alloc (.cells ci.toArray 25 (0, 0)) = v1 := hqv1
        rw [ev1] at nf bb
        rw [← hgv1] at nf ⊢
        have NF := Lib.hid nf
        have hv1 := hHeld.trans (bb.mono hHeld.size)
        clear nf bb hqv1 ev1 hgv1 hHeld
        go_frame
        refine hK.out _ _ hv1 (fun hHeld => ?_)
        clear hK K hv1
        refine end_last (i := 13) (by kernel_rfl) (by kernel_rfl) rfl (fun K hK => ?_)
        rw [if_pos (by rfl)]
        have OWa := Lib.hid (OW.out.keep hHeld)
        have Ba := Lib.hid (B.out.trans (hHeld.mono B.out.size))
        refine wp_append_row v1 (.tmp 77) (.tmp 89) 42 rfl w5.heap.size 25 i0 (.agg (List.replicate 32 (bV 0)).toArray) 32 32 Tryz.underlying42 hi hz0 hz1 hz2 (by kernel_rfl) (by decide) bv _ _ rfl OWa.out.1 ⟨gv1, 0, none⟩ 1 1 ci rfl (by rw [LI.out]) (fun j u hj => by rw [Addr.add_mid]; exact range_of_box NF.out j u hj) CO.out (by have := DL.out; unfold maxLen; omega) (by have := DL.out; omega) Ba.out.size ?_
        intro nv v2 q1 q2 q3
        have OWn : Hid (HsOwn w5.heap.size v2 nv (idsT L (U.take i) ++ [ix])) := HsOwn.push OWa.out.2 LX.out (by rw [← CIE.out]; exact q1)
        have Bn := Lib.hid (own_grown Ba.out (Nat.le_refl _) Ba.out.size OWa.out.1 q2)
        clear q1 q2 q3 hHeld OWa Ba NF
        go_frame
        refine hK.out _ _ ?_
        clear hK K
        refine end_late (i := 14) (v := nv) rfl (by kernel_rfl) (by kernel_rfl) (by kernel_rfl) (by kernel_rfl) (by kernel_rfl) (fun _ _ _ h => h) (Or.inl ⟨by rfl, fun w' _ => by kernel_rfl⟩) ?_
        go_frame
        refine end_done (by kernel_rfl) ?_ _
        go_wp2_with fail
        go_roundw
        case rel => exact ⟨i + 1, _, rfl, by go_num, by omega, by rw [TS.out]; exact OWn.out, Bn.out⟩
        case measure => simp [intOf] <;> omega
      · have hin : i = nb := by omega
        have BV : Hid (HsOwn w5.heap.size wr bv (idsT L (U.take nb))) := by
          have h := OW.out
          rw [hin] at h
          exact h
        have i1 : ¬ (i : Int) < (nb : Int) := by omega
        clear OW hin hlt
        go_wp2_with fail
        go_loopw [16, 18] (fun vo vj wz => PaI3 L U V nb nc bv w5 vo vj wz) (fun _ vj _ => (intOf vj + 1).toNat)
        case atStart => exact ⟨0, (nc : Int) - 1, _, rfl, rfl, Nat.zero_le _, by omega, HsOwn.nil _ _, BV.out, ne_none _, B.out⟩
        case round =>
          clear B BV
          obtain ⟨d, j, ov, rfl, rfl, hd, hj, how, hbv, hne, hb⟩ := hrel
          have OW := Lib.hid how
          have BV := Lib.hid hbv
          have NE := Lib.hid hne
          have B := Lib.hid hb
          have hnc := HNC.out
          clear how hbv hne hb
          by_cases hj0 : 0 ≤ j
          · obtain ⟨p, rfl⟩ : ∃ p : Nat, j = (p : Int) := ⟨j.toNat, by omega⟩
            have hpn : d + p + 1 = nc := by omega
            obtain ⟨uu, hu⟩ : ∃ uu, V[p]? = some uu := ⟨_, List.getElem?_eq_getElem (by rw [← NM.out]; omega)⟩
            have hub := VB.out uu (List.mem_of_getElem? hu)
            obtain ⟨un, rfl⟩ : ∃ un : Nat, uu = (un : Int) := ⟨uu.toNat, by omega⟩
            obtain ⟨x, hx⟩ : ∃ x, L[un]? = some x := ⟨_, List.getElem?_eq_getElem (by rw [← N.out]; omega)⟩
            have ox := OK.out x (List.mem_of_getElem? hx)
            have TC := Lib.hid (cell_below TC5.out B.out)
            have RI := Lib.hid (range_below (nd_id (HG.out un x hx)) B.out)
            have XD : (L.getD (un : Int).toNat ndZ).id = x.id := by rw [Int.toNat_natCast, List.getD_eq_getElem?_getD, hx]; rfl
            obtain ⟨ix, hix⟩ : ∃ ix, ix = x.id := ⟨_, rfl⟩
            rw [← hix] at RI XD
            have LX : Hid (ix.length = 32) := by show _ = _; rw [hix]; exact ox.1
            have LI : Hid ((ix.map bV).length = 32) := by show _ = _; rw [List.length_map]; exact LX.out
            have CO : Hid (∀ u ∈ ix.map bV, u.oneCell' = true) := fun u hu => by
              obtain ⟨y, _, rfl⟩ := List.mem_map.1 hu
              rfl
            obtain ⟨ci, hci⟩ : ∃ ci, ci = ix.map bV := ⟨_, rfl⟩
            rw [← hci] at RI LI CO
            have CIE := Lib.hid hci
            have CU := Lib.hid (cell_below (IM.out p _ hu) B.out)
            have u0 : 0 ≤ (un : Int) := hub.1
            have u1 : (un : Int) < (n : Int) := hub.2
            have RV : ((V.take nc).reverse)[d]? = some (un : Int) := by
              rw [rev_get (n := nc) (by rw [List.length_take, ← NM.out]; omega) hpn, List.getElem?_take_of_lt (by omega)]
              exact hu
            have TS : Hid (idsT L (((V.take nc).reverse).take (d + 1)) = idsT L (((V.take nc).reverse).take d) ++ [ix]) := by show _ = _; rw [idsT_succ RV, XD]
            have DL : Hid ((idsT L (((V.take nc).reverse).take d)).length ≤ 4096) := by show _ ≤ _; unfold idsT; rw [List.length_map, List.length_take]; omega
            have p0 : 0 ≤ (p : Int) := by omega
            have p1 : (p : Int) < (nm : Int) := by omega
            have PD := Lib.hid hpn
            clear hu hub hx ox XD hix hci hnc RV hpn hj hj0
            go_upto_region 18 with fail
            refine wp_region_end (fun w' => Below wr.heap.size wr w') [13] (by kernel_rfl) (Below.drew (Below.refl _ _)) (fun hHeld => ?_)
            generalize hwd : wr.drew = wd at  hHeld ⊢
            clear hwd
            refine end_take (i := 0) (v := ov) rfl (by kernel_rfl) (by kernel_rfl) (by kernel_rfl) (by kernel_rfl) (fun _ _ _ h => h) (Or.inl ⟨by rfl, fun w' _ => by kernel_rfl⟩) hHeld ?_
            go_frame
            refine end_take (i := 1) (v := (.pointer (some ⟨a, 0, none⟩))) rfl (by kernel_rfl) (by kernel_rfl) (by kernel_rfl) (by kernel_rfl) (fun _ _ _ h => h) (Or.inl ⟨by rfl, fun w' _ => by kernel_rfl⟩) hHeld ?_
            go_frame
            refine end_take (i := 2) (v := (.pointer (some ⟨a, 0, none⟩))) rfl (by kernel_rfl) (by kernel_rfl) (by kernel_rfl) (by kernel_rfl) (fun _ _ _ h => h) (Or.inl ⟨by rfl, fun w' _ => by kernel_rfl⟩) hHeld ?_
            go_frame
            refine end_take (i := 3) (v := (.pointer (some ⟨a, 0, none⟩))) rfl (by kernel_rfl) (by kernel_rfl) (by kernel_rfl) (by kernel_rfl) (fun _ _ _ h => h) (Or.inl ⟨by rfl, fun w' _ => by kernel_rfl⟩) hHeld ?_
            go_frame
            refine end_take (i := 4) (v := (.slice (some ⟨bt, ot, none⟩) n cap)) rfl (by kernel_rfl) (by kernel_rfl) (by kernel_rfl) (by kernel_rfl) (fun _ _ _ h => h) (yieldsIf_load_one (by rfl) 79 (.tmp 103) rfl a (0) rfl _ _ (fun w' hw' => cell_below TC.out hw') Tryz.underlying79 rfl) hHeld ?_
            go_frame
            refine end_take (i := 5) (v := (.slice (some ⟨gm, om, none⟩) nm cm)) rfl (by kernel_rfl) (by kernel_rfl) (by kernel_rfl) (by kernel_rfl) (fun _ _ _ h => h) (Or.inl ⟨by rfl, fun w' _ => by kernel_rfl⟩) hHeld ?_
            go_frame
            refine end_take (i := 6) (v := (.int .i64 (p : Int))) rfl (by kernel_rfl) (by kernel_rfl) (by kernel_rfl) (by kernel_rfl) (fun _ _ _ h => h) (Or.inl ⟨by rfl, fun w' _ => by kernel_rfl⟩) hHeld ?_
            go_frame
            refine end_take (i := 7) (v := (.pointer (some ⟨gm, om + p, none⟩))) rfl (by kernel_rfl) (by kernel_rfl) (by kernel_rfl) (by kernel_rfl) (fun _ _ _ h => h) (Or.inl ⟨by rfl, fun w' _ => by go_simp⟩) hHeld ?_
            go_frame
            refine end_take (i := 8) (v := (.int .i64 (un : Int))) rfl (by kernel_rfl) (by kernel_rfl) (by kernel_rfl) (by kernel_rfl) (fun _ _ _ h => h) (yieldsIf_load_one (by rfl) 3 (.tmp 107) rfl gm (om + p) rfl _ _ (fun w' hw' => cell_below CU.out hw') Tryz.underlying3 rfl) hHeld ?_
            go_frame
            refine end_take (i := 9) (v := (.pointer (some ⟨bt, ot + un * 104, none⟩))) rfl (by kernel_rfl) (by kernel_rfl) (by kernel_rfl) (by kernel_rfl) (fun _ _ _ h => h) (Or.inl ⟨by rfl, fun w' _ => by go_simp⟩) hHeld ?_
            go_frame
            refine end_take (i := 10) (v := (.pointer (some ⟨bt, ot + un * 104, none⟩))) rfl (by kernel_rfl) (by kernel_rfl) (by kernel_rfl) (by kernel_rfl) (fun _ _ _ h => h) (Or.inl ⟨by rfl, fun w' _ => by kernel_rfl⟩) hHeld ?_
            go_frame
            refine end_take (i := 11) (v := (.agg ci.toArray)) rfl (by kernel_rfl) (by kernel_rfl) (by kernel_rfl) (by kernel_rfl) (fun _ _ _ h => h) (Sha.yieldsIf_load_mid (by rfl) 25 (.tmp 110) rfl bt (ot + un * 104) rfl ci _ (fun w' hw' => range_below RI.out hw') Tryz.underlying25 rfl (by rw [LI.out]; kernel_rfl)) hHeld ?_
            go_frame
            refine end_next (i := 12) (by kernel_rfl) rfl (fun K hK => ?_)
            rw [if_pos (by rfl)]
            refine wp_slice_one 42 25 (.tmp 111) rfl ci rfl Tryz.underlying42 i0 _ hi hz0 (by rw [hz1, LI.out]) (by rw [LI.out]; omega) (by rw [LI.out]; omega) ?_
            have nf := heap_alloc_new wd (.cells ci.toArray 25 (0, 0))
            have bb := (Below.refl wd.heap.size wd).alloc (Nat.le_refl _) (.cells ci.toArray 25 (0, 0))
            obtain ⟨gv1, hgv1⟩ : ∃ g, g = wd.heap.size := ⟨_, rfl⟩
            generalize hqv1 : World.alloc _ _ = v1
            have ev1 : wd.alloc (.cells ci.toArray 25 (0, 0)) = v1 := hqv1
            rw [ev1] at nf bb
            rw [← hgv1] at nf ⊢
            have NF := Lib.hid nf
            have hv1 := hHeld.trans (bb.mono hHeld.size)
            clear nf bb hqv1 ev1 hgv1 hHeld
            go_frame
            refine hK.out _ _ hv1 (fun hHeld => ?_)
            clear hK K hv1
            refine end_last (i := 13) (by kernel_rfl) (by kernel_rfl) rfl (fun K hK => ?_)
            rw [if_pos (by rfl)]
            have OWa := Lib.hid (OW.out.keep hHeld)
            have Ba := Lib.hid (B.out.trans (hHeld.mono B.out.size))
            have BVa := Lib.hid (BV.out.keep hHeld)
            refine wp_append_row v1 (.tmp 100) (.tmp 112) 42 rfl w5.heap.size 25 i0 (.agg (List.replicate 32 (bV 0)).toArray) 32 32 Tryz.underlying42 hi hz0 hz1 hz2 (by kernel_rfl) (by decide) ov _ _ rfl OWa.out.1 ⟨gv1, 0, none⟩ 1 1 ci rfl (by rw [LI.out]) (fun j u hj => by rw [Addr.add_mid]; exact range_of_box NF.out j u hj) CO.out (by have := DL.out; unfold maxLen; omega) (by have := DL.out; omega) Ba.out.size ?_
            intro nv v2 q1 q2 q3
            have OWn : Hid (HsOwn w5.heap.size v2 nv (idsT L (((V.take nc).reverse).take d) ++ [ix])) := HsOwn.push OWa.out.2 LX.out (by rw [← CIE.out]; exact q1)
            have Bn := Lib.hid (own_grown Ba.out (Nat.le_refl _) Ba.out.size OWa.out.1 q2)
            have BVn := Lib.hid (BVa.out.kept q2 NE.out)
            have NEn : Hid (bv.ownBlock = none ∨ bv.ownBlock ≠ nv.ownBlock) := ne_new NE.out q3 (fun q hq => (BVa.out.1.lt q hq).2)
            clear q1 q2 q3 hHeld OWa Ba NF BVa
            go_frame
            refine hK.out _ _ ?_
            clear hK K
            refine end_late (i := 14) (v := nv) rfl (by kernel_rfl) (by kernel_rfl) (by kernel_rfl) (by kernel_rfl) (by kernel_rfl) (fun _ _ _ h => h) (Or.inl ⟨by rfl, fun w' _ => by kernel_rfl⟩) ?_
            go_frame
            refine end_done (by kernel_rfl) ?_ _
            have hpn := PD.out
            go_wp2_with fail
            go_roundw
            case rel => exact ⟨d + 1, (p : Int) - 1, _, rfl, rfl, by omega, by omega, by rw [TS.out]; exact OWn.out, BVn.out, NEn.out, Bn.out⟩
            case measure => simp [intOf] <;> omega
          · have hdn : d = nc := by omega
            have ON : Hid (HsOwn w5.heap.size wr ov (idsT L ((V.take nc).reverse))) := by
              have h := OW.out
              rw [List.take_of_length_le (by rw [List.length_reverse, List.length_take]; omega)] at h
              exact h
            have hnb := HNB.out
            have cp0 := cp
            obtain ⟨uu, hu⟩ : ∃ uu, U[nb]? = some uu := ⟨_, List.getElem?_eq_getElem (by rw [← NL.out]; omega)⟩
            have hub := UB.out uu (List.mem_of_getElem? hu)
            obtain ⟨un, rfl⟩ : ∃ un : Nat, uu = (un : Int) := ⟨uu.toNat, by omega⟩
            obtain ⟨x, hx⟩ : ∃ x, L[un]? = some x := ⟨_, List.getElem?_eq_getElem (by rw [← N.out]; omega)⟩
            have ox := OK.out x (List.mem_of_getElem? hx)
            have TC := Lib.hid (cell_below TC5.out B.out)
            have RI := Lib.hid (range_below (nd_id (HG.out un x hx)) B.out)
            have XD : (L.getD (un : Int).toNat ndZ).id = x.id := by rw [Int.toNat_natCast, List.getD_eq_getElem?_getD, hx]; rfl
            obtain ⟨ix, hix⟩ : ∃ ix, ix = x.id := ⟨_, rfl⟩
            rw [← hix] at RI XD
            have LX : Hid (ix.length = 32) := by show _ = _; rw [hix]; exact ox.1
            have LI : Hid ((ix.map bV).length = 32) := by show _ = _; rw [List.length_map]; exact LX.out
            have CO : Hid (∀ u ∈ ix.map bV, u.oneCell' = true) := fun u hu => by
              obtain ⟨y, _, rfl⟩ := List.mem_map.1 hu
              rfl
            obtain ⟨ci, hci⟩ : ∃ ci, ci = ix.map bV := ⟨_, rfl⟩
            rw [← hci] at RI LI CO
            have CIE := Lib.hid hci
            have CU := Lib.hid (cell_below (IL.out nb _ hu) B.out)
            have u0 : 0 ≤ (un : Int) := hub.1
            have u1 : (un : Int) < (n : Int) := hub.2
            have MX : Hid (meetT L (k : Int) (k2 : Int) = ix) := by
              show _ = _
              unfold meetT
              have eu : U.getD nb 0 = (un : Int) := by rw [List.getD_eq_getElem?_getD, hu]; rfl
              rw [← KE.out, ← UE.out, ← NL.out, show nl - kc = nb by omega, eu]
              exact XD
            have COA : Hid (ci.toArray.all (·.oneCell') = true) := by show _ = _; rw [CIE.out]; exact bV_one _
            have F8R := Lib.hid (row_below F8.out B.out)
            have G8L : Hid (g8 < w5.heap.size) := (Array.getElem?_eq_some_iff.1 F8.out).1
            have BE : Hid (backT L (k : Int) (k2 : Int) = idsT L (U.take nb)) := by
              show _ = _
              unfold backT
              rw [← KE.out, ← UE.out, ← NL.out, show nl - kc = nb by omega]
            have OE : Hid (onT L (k : Int) (k2 : Int) = idsT L ((V.take nc).reverse)) := by
              show _ = _
              unfold onT
              rw [← KE.out, ← VE.out, ← NM.out, show nm - kc = nc by omega]
            have n0 : 0 ≤ (nb : Int) := by omega
            have n1 : (nb : Int) < (nl : Int) := by omega
            clear hu hub hx ox XD hix hci hnb hnc OW hdn hj
            go_upto_region 19 with fail
            refine wp_region_end (fun w' => Below wr.heap.size wr w') [18] (by kernel_rfl) (Below.drew (Below.refl _ _)) (fun hHeld => ?_)
            generalize hwd : wr.drew = wd at  hHeld ⊢
            clear hwd
            refine end_take (i := 0) (v := bv) rfl (by kernel_rfl) (by kernel_rfl) (by kernel_rfl) (by kernel_rfl) (fun _ _ _ h => h) (Or.inl ⟨by rfl, fun w' _ => by kernel_rfl⟩) hHeld ?_
            go_frame
            refine end_take (i := 1) (v := ov) rfl (by kernel_rfl) (by kernel_rfl) (by kernel_rfl) (by kernel_rfl) (fun _ _ _ h => h) (Or.inl ⟨by rfl, fun w' _ => by kernel_rfl⟩) hHeld ?_
            go_frame
            refine end_take (i := 2) (v := (.pointer (some ⟨a, 0, none⟩))) rfl (by kernel_rfl) (by kernel_rfl) (by kernel_rfl) (by kernel_rfl) (fun _ _ _ h => h) (Or.inl ⟨by rfl, fun w' _ => by kernel_rfl⟩) hHeld ?_
            go_frame
            refine end_take (i := 3) (v := (.pointer (some ⟨a, 0, none⟩))) rfl (by kernel_rfl) (by kernel_rfl) (by kernel_rfl) (by kernel_rfl) (fun _ _ _ h => h) (Or.inl ⟨by rfl, fun w' _ => by kernel_rfl⟩) hHeld ?_
            go_frame
            refine end_take (i := 4) (v := (.pointer (some ⟨a, 0, none⟩))) rfl (by kernel_rfl) (by kernel_rfl) (by kernel_rfl) (by kernel_rfl) (fun _ _ _ h => h) (Or.inl ⟨by rfl, fun w' _ => by kernel_rfl⟩) hHeld ?_
            go_frame
            refine end_take (i := 5) (v := (.slice (some ⟨bt, ot, none⟩) n cap)) rfl (by kernel_rfl) (by kernel_rfl) (by kernel_rfl) (by kernel_rfl) (fun _ _ _ h => h) (yieldsIf_load_one (by rfl) 79 (.tmp 118) rfl a (0) rfl _ _ (fun w' hw' => cell_below TC.out hw') Tryz.underlying79 rfl) hHeld ?_
            go_frame
            refine end_take (i := 6) (v := (.slice (some ⟨gl, ol, none⟩) nl cl)) rfl (by kernel_rfl) (by kernel_rfl) (by kernel_rfl) (by kernel_rfl) (fun _ _ _ h => h) (Or.inl ⟨by rfl, fun w' _ => by kernel_rfl⟩) hHeld ?_
            go_frame
            refine end_take (i := 7) (v := (.slice (some ⟨gl, ol, none⟩) nl cl)) rfl (by kernel_rfl) (by kernel_rfl) (by kernel_rfl) (by kernel_rfl) (fun _ _ _ h => h) (Or.inl ⟨by rfl, fun w' _ => by kernel_rfl⟩) hHeld ?_
            go_frame
            refine end_take (i := 8) (v := (.int .i64 (nl : Int))) rfl (by kernel_rfl) (by kernel_rfl) (by kernel_rfl) (by kernel_rfl) (fun _ _ _ h => h) (Or.inl ⟨by rfl, fun w' _ => by go_simp⟩) hHeld ?_
            go_frame
            refine end_take (i := 9) (v := (.int .i64 (kc : Int))) rfl (by kernel_rfl) (by kernel_rfl) (by kernel_rfl) (by kernel_rfl) (fun _ _ _ h => h) (Or.inl ⟨by rfl, fun w' _ => by kernel_rfl⟩) hHeld ?_
            go_frame
            refine end_take (i := 10) (v := (.int .i64 (nb : Int))) rfl (by kernel_rfl) (by kernel_rfl) (by kernel_rfl) (by kernel_rfl) (fun _ _ _ h => h) (Or.inl ⟨by rfl, fun w' _ => by go_simp <;> (try rw [IntKind.wrap_i64]) <;> omega⟩) hHeld ?_
            go_frame
            refine end_take (i := 11) (v := (.pointer (some ⟨gl, ol + nb, none⟩))) rfl (by kernel_rfl) (by kernel_rfl) (by kernel_rfl) (by kernel_rfl) (fun _ _ _ h => h) (Or.inl ⟨by rfl, fun w' _ => by go_simp⟩) hHeld ?_
            go_frame
            refine end_take (i := 12) (v := (.int .i64 (un : Int))) rfl (by kernel_rfl) (by kernel_rfl) (by kernel_rfl) (by kernel_rfl) (fun _ _ _ h => h) (yieldsIf_load_one (by rfl) 3 (.tmp 125) rfl gl (ol + nb) rfl _ _ (fun w' hw' => cell_below CU.out hw') Tryz.underlying3 rfl) hHeld ?_
            go_frame
            refine end_take (i := 13) (v := (.pointer (some ⟨bt, ot + un * 104, none⟩))) rfl (by kernel_rfl) (by kernel_rfl) (by kernel_rfl) (by kernel_rfl) (fun _ _ _ h => h) (Or.inl ⟨by rfl, fun w' _ => by go_simp⟩) hHeld ?_
            go_frame
            refine end_take (i := 14) (v := (.pointer (some ⟨bt, ot + un * 104, none⟩))) rfl (by kernel_rfl) (by kernel_rfl) (by kernel_rfl) (by kernel_rfl) (fun _ _ _ h => h) (Or.inl ⟨by rfl, fun w' _ => by kernel_rfl⟩) hHeld ?_
            go_frame
            refine end_take (i := 15) (v := (.agg ci.toArray)) rfl (by kernel_rfl) (by kernel_rfl) (by kernel_rfl) (by kernel_rfl) (fun _ _ _ h => h) (Sha.yieldsIf_load_mid (by rfl) 25 (.tmp 128) rfl bt (ot + un * 104) rfl ci _ (fun w' hw' => range_below RI.out hw') Tryz.underlying25 rfl (by rw [LI.out]; kernel_rfl)) hHeld ?_
            go_frame
            refine end_take (i := 16) (v := bv) rfl (by kernel_rfl) (by kernel_rfl) (by kernel_rfl) (by kernel_rfl) (fun _ _ _ h => h) (Or.inl ⟨by rfl, fun w' _ => by kernel_rfl⟩) hHeld ?_
            go_frame
            refine end_take (i := 17) (v := ov) rfl (by kernel_rfl) (by kernel_rfl) (by kernel_rfl) (by kernel_rfl) (fun _ _ _ h => h) (Or.inl ⟨by rfl, fun w' _ => by kernel_rfl⟩) hHeld ?_
            go_frame
            refine end_last (i := 18) (by kernel_rfl) (by kernel_rfl) rfl (fun K hK => ?_)
            rw [if_pos (by rfl)]
            have F8a := Lib.hid (row_below F8R.out hHeld)
            have ONa := Lib.hid (ON.out.keep hHeld)
            have BVa := Lib.hid (BV.out.keep hHeld)
            have Ba := Lib.hid (B1.out.trans ((B.out.trans (hHeld.mono B.out.size)).mono B1.out.size))
            refine wp_store_whole 25 (.tmp 8) (.tmp 129) rfl g8 (List.replicate 32 (bV 0)) ci 25 rfl rfl (by rw [LI.out]; rfl) F8a.out (by rw [LI.out]; kernel_rfl) COA.out ?_
            intro v1 q1 q2
            have F8n := Lib.hid q1
            have ONn := Lib.hid (ONa.out.kept q2 (own_far ONa.out.1 G8L.out))
            have BVn := Lib.hid (BVa.out.kept q2 (own_far BVa.out.1 G8L.out))
            have Bn : Hid (Below w.heap.size w v1) := Ba.out.grown q2 Ba.out.size (fun k hk => by cases hk; exact G8.out)
            clear q1 q2 hHeld F8a ONa BVa Ba
            go_frame
            refine hK.out _ _ ?_
            clear hK K
            refine end_late (i := 19) (v := (.bool true)) rfl (by kernel_rfl) (by kernel_rfl) (by kernel_rfl) (by kernel_rfl) (by kernel_rfl) (fun _ _ _ h => h) (Or.inl ⟨by rfl, fun w' _ => by kernel_rfl⟩) ?_
            go_frame
            refine end_done (by kernel_rfl) ?_ _
            have SI : Hid (ci.toArray.size = 32) := by show _ = _; rw [List.size_toArray]; exact LI.out
            go_wp2_with fail
            refine bodyPost_ret (results_t2ct rfl _ _ g8 25 ci.toArray (0, 0) _ rfl F8n.out Tryz.underlying25 rfl (by rw [SI.out]; kernel_rfl)) rfl ?_
            exact ⟨Bn.out, .inr ⟨by omega, by omega, bv, ov, by rw [MX.out, ← CIE.out]; rfl, by rw [BE.out]; exact ⟨Joins.ownsRow_le BVn.out.1 B1.out.size, BVn.out.2⟩, by rw [OE.out]; exact ⟨Joins.ownsRow_le ONn.out.1 B1.out.size, ONn.out.2⟩⟩⟩
end Go.Proofs.YtbgagaaoldjhnaaGreatDoor.Sha
