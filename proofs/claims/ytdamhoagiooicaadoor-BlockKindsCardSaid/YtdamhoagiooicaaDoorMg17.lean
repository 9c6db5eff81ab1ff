/-
  Texts of this proof joined into one file: BlTwice, HdCheck, Flt, BlEach, BlCheck, BlFirst7, BlRefIds, MkPair. What each holds, and under which conditions, its own first sentence tells.
-/
import Derived.IntWalk
import Derived.Deep.RegionWith
import Derived.Test.YtdamhoagiooicaaDoorMg15
import Derived.Test.YtdamhoagiooicaaDoorMg09
import Derived.Test.YtdamhoagiooicaaDoorMg16
import Derived.Test.YtdamhoagiooicaaDoorMg08
import Derived.Test.YtdamhoagiooicaaDoorMg01
import Derived.Test.YtdamhoagiooicaaDoorMg06
import Derived.Test.YtdamhoagiooicaaDoorMg04
import Derived.Test.YtdamhoagiooicaaDoorMg10
import Derived.Test.YtdamhoagiooicaaDoorMg14
import Derived.Test.YtdamhoagiooicaaDoorMg11
import Derived.Test.YtdamhoagiooicaaDoorMg07
/-
  Package block tells whether two inputs of a block's transactions have one place. Nothing that was there turns. Condition: a few transactions that lie in memory.
-/
namespace Go.Proofs.YtdamhoagiooicaaDoor.Sha
open Go Go.RowKit
open Go.Maps (addKey Keyed)
/-- All inputs of transactions, in their order. -/
def insAll (l : List TTx) : List TIn := l.flatMap (·.ins)
theorem insAll_snoc {l : List TTx} {k : Nat} {t : TTx} (h : l[k]? = some t) : insAll (l.take (k + 1)) = insAll (l.take k) ++ t.ins := by
  unfold insAll
  rw [List.take_add_one, h, List.flatMap_append]
  simp
theorem insAll_len : ∀ (l : List TTx), (∀ t ∈ l, TxSmall t) → (insAll l).length ≤ 1000 * l.length
  | [], _ => by simp [insAll]
  | t :: l, h => by
    have ih := insAll_len l (fun u hu => h u (List.mem_cons_of_mem _ hu))
    have h1 := (h t List.mem_cons_self).2.1
    show (t.ins ++ insAll l).length ≤ _
    rw [List.length_append, List.length_cons]
    omega
theorem insAll_ok (l : List TTx) (h : ∀ t ∈ l, TxSmall t) : InsOk (insAll l) := fun y hy => by
  obtain ⟨t, ht, hy⟩ := List.mem_flatMap.1 hy
  exact (h t ht).1.2.1 y hy
theorem placesD_push (l : List TIn) (x : TIn) : placesD (l ++ [x]) = (placesD l).put (ptLit x) (.agg []) := by
  unfold placesD
  rw [List.map_append]
  exact Maps.setOf_snoc _ _ _
theorem app_take {α : Type} (p : List α) {l : List α} {k : Nat} {x : α} (h : l[k]? = some x) : p ++ l.take (k + 1) = (p ++ l.take k) ++ [x] := by
  rw [List.take_add_one, h, List.append_assoc]
  rfl
def TwInv (n mb : Nat) (l : List TTx) (w1 : World) (vs vi : Value) (wr : World) : Prop :=
  ∃ k s : Nat, k ≤ n ∧ vi = .int .i64 k ∧ s = (insAll (l.take k)).length ∧ vs = .int .i64 s ∧ wr.ownsMap Tryd.prog 44 unitElem mb s (placesD (insAll (l.take k))) ∧ Below w1.heap.size w1 wr
def TwIn (n mb : Nat) (p l : List TIn) (w1 : World) (vi : Value) (wr : World) : Prop :=
  ∃ k : Nat, k ≤ n ∧ vi = .int .i64 k ∧ wr.ownsMap Tryd.prog 44 unitElem mb (p.length + k) (placesD (p ++ l.take k)) ∧ w1.grownBy wr (some mb)
set_option maxHeartbeats 2000000 in
set_option maxRecDepth 100000 in
theorem bltwice_any (l : List TTx) (v : Value) (w : World) (h1 : TxsAt w v l) (hs : ∀ t ∈ l, TxSmall t) (hl : l.length ≤ 1000) (b : Bool) (hb : b = twiceB (insAll l)) :
    Calls Tryd.prog 43 #[v] w fun e w' => e = .returned (.bool b) ∧ Below w.heap.size w w' := by
  have HBb := Lib.hid hb
  obtain ⟨sp, cap, rfl⟩ := h1.shape
  obtain ⟨n, hn⟩ : ∃ n, n = l.length := ⟨_, rfl⟩
  rw [← hn] at h1 ⊢
  have HT := Lib.hid h1
  have NN := Lib.hid hn
  have TS := Lib.hid hs
  have bn : n ≤ 1000 := by rw [hn]; exact hl
  have AL : Hid ((insAll l).length ≤ 1000000) := by show _ ≤ _; have := insAll_len l hs; omega
  clear hb h1 hn hs hl
  go_enter Tryd.func43, Tryd.ntmps43
  have hmm := @run_makeMap Tryd.prog
  obtain ⟨mb, hmb⟩ : ∃ mb, mb = w.heap.size := ⟨_, rfl⟩
  have MB : Hid (w.heap.size ≤ mb) := by show _ ≤ _; rw [hmb]; exact Nat.le_refl _
  have HOM : Hid ((w.alloc (.map #[] 0)).ownsMap Tryd.prog 44 unitElem mb 0 (placesD [])) := by rw [hmb]; exact World.ownsMap_made _ _ _ _
  have HBM : Hid (Below w.heap.size w (w.alloc (.map #[] 0))) := (Below.refl _ _).alloc (Nat.le_refl _) _
  go_wp2_with fail
  rw [← hmb]
  clear hmm hmb
  go_loopw [4, 12] (fun vs vi wr => TwInv n mb l w vs vi wr) (fun _ i _ => n - (intOf i).toNat)
  case atStart => exact ⟨0, 0, by omega, rfl, rfl, rfl, HOM.out, HBM.out⟩
  case round =>
    clear HOM HBM
    obtain ⟨k, s, hk, rfl, hs, rfl, HM, B⟩ := hrel
    have B := Lib.hid B
    have HM := Lib.hid HM
    have HSm := Lib.hid hs
    clear hs
    have B0 : Hid (Below w.heap.size w w) := Below.refl _ _
    by_cases hlt : k < n
    · skip
      obtain ⟨b, o, hs1, _, hg⟩ := HT.out.get (by omega)
      obtain ⟨t, hgt⟩ : ∃ t, l[k]? = some t := ⟨_, List.getElem?_eq_getElem (by have := NN.out; omega)⟩
      obtain ⟨iv, ov, hr, hta⟩ := hg k t hgt
      have LC : Hid ((txL t iv ov).length = 4) := rfl
      have LC' : Hid ((txL t iv ov).toArray.size = 4) := rfl
      have ONE : Hid ((txL t iv ov).toArray.all (·.oneCell') = true) := by
        obtain ⟨_, iv', ov', e, h1, h2⟩ := hta
        have e : txL t iv ov = txL t iv' ov' := by simpa using e
        rw [e]
        exact tx_one h1 h2
      obtain ⟨ct, hct⟩ : ∃ ct, ct = txL t iv ov := ⟨_, rfl⟩
      rw [← hct] at hr hta LC LC' ONE
      have R := Lib.hid (range_below (range_below hr B0.out) B.out)
      have TW := Lib.hid hta
      have TA : Hid (∀ W, Below wr.heap.size wr W → TxAt W (.agg ct.toArray) t) := fun W hW => ((hta.below B0.out).below B.out).below hW
      have GT := Lib.hid hgt
      have p0 : 0 ≤ (k : Int) := by omega
      have q0 : (k : Int) < (n : Int) := by omega
      subst hs1
      clear hg hgt hr hta hct
      obtain ⟨g5, hg5⟩ : ∃ g5, g5 = wr.heap.size := ⟨_, rfl⟩
      obtain ⟨_, f2, f3, f4⟩ := fill_setup (Below.refl wr.heap.size wr) [nV 0, .slice none 0 0, .slice none 0 0, nV 0].toArray ct.toArray 32
      go_upto_region 6 with ((with_reducible show wpList _ _ _ _ _ _); first | (refine wpList_load_mid rfl 32 (.tmp 14) rfl b (o + k * 4) rfl ct _ R.out Tryd.underlying32 rfl (by rw [LC.out]; kernel_rfl) ?_; go_frame) | (refine wpList_store_row rfl 32 (.tmp 6) (.tmp 15) rfl wr.heap.size ct.toArray rfl rfl 32 _ (heap_alloc_new _ _) (by rw [LC'.out]; kernel_rfl) (by rw [LC'.out]; rfl) ONE.out ?_; go_frame))
      rw [← hg5] at f2 f3 f4 ⊢
      generalize hw5 : World.setRow _ _ _ = w5
      have e5 : World.setRow (wr.alloc (.cells [nV 0, .slice none 0 0, .slice none 0 0, nV 0].toArray 32)) g5 ct.toArray = w5 := hw5
      rw [e5] at f2 f4
      rw [hg5] at f4
      have F5 := Lib.hid f2
      have N5 := Lib.hid f4
      have B5 := Lib.hid (B.out.trans (f4.mono B.out.size))
      have G5 := Lib.hid hg5
      clear f2 f3 f4 hg5 hw5 e5
      have HM5 := Lib.hid (HM.out.kept (grownBy_of_below N5.out none) (by simp))
      obtain ⟨_, iv2, ov2, hag, hi0, _⟩ := TW.out
      have hct2 : ct = txL t iv2 ov2 := by have := Value.agg.inj hag; have := congrArg Array.toList this; simpa using this
      obtain ⟨si, ci, rfl, hci, hi1⟩ := hi0
      obtain ⟨ni, hni⟩ : ∃ ni, ni = t.ins.length := ⟨_, rfl⟩
      rw [← hni] at hct2
      have FB := F5.out
      rw [hct2] at FB
      have C1 : Hid (∀ W, Below w5.heap.size w5 W → W.cell? ⟨g5, 1, none⟩ = some (.slice si ni ci)) := fun W hW => (tx_cells (row_below FB hW)).2.1
      have FB := Lib.hid FB
      have HI := Lib.hid hi1
      have MLT : Hid (mb < g5) := by show _ < _; rw [G5.out]; exact HM.out.lt
      have NI := Lib.hid hni
      have bni : ni ≤ 1000 := by rw [hni]; exact (TS.out t (List.mem_of_getElem? GT.out)).2.1
      have IOK : Hid (InsOk t.ins) := (TS.out t (List.mem_of_getElem? GT.out)).1.2.1
      have bs : s + ni ≤ 1000000 := by
        have h1 := AL.out
        have h2 : insAll l = insAll (l.take (k + 1)) ++ insAll (l.drop (k + 1)) := by unfold insAll; rw [← List.flatMap_append, List.take_append_drop]
        rw [h2, insAll_snoc GT.out] at h1
        simp only [List.length_append] at h1
        have := HSm.out
        have := NI.out
        omega
      have BS := Lib.hid bs
      clear hag hct2 hi1 hni hci HM TA bs ONE R LC LC'
      have c1 := C1.out w5 (Below.refl _ _)
      go_wp2_with fail
      clear c1
      obtain ⟨wo, rfl⟩ : ∃ wo : World, wo = wr := ⟨_, rfl⟩
      obtain ⟨p, hp⟩ : ∃ p, p = insAll (l.take k) := ⟨_, rfl⟩
      have HP := Lib.hid hp
      obtain rfl : s = p.length := by rw [hp]; exact HSm.out
      rw [← hp] at HM5
      clear hp HSm
      go_loopw [19] (fun vi wq => TwIn ni mb p t.ins w5 vi wq) (fun i _ => ni - (intOf i).toNat)
      case atStart => exact ⟨0, by omega, rfl, by simpa using HM5.out, grownBy_of_below (Below.refl _ _) _⟩
      case round =>
        clear HM5
        obtain ⟨j, hj, rfl, HQ, BQ⟩ := hrel
        have BQ := Lib.hid BQ
        have BW := Lib.hid (B5.out.grown BQ.out B5.out.size (fun q hq => by cases hq; exact MB.out))
        have HQ := Lib.hid HQ
        by_cases hlt2 : j < ni
        · have hkx : j < t.ins.length := by have := NI.out; omega
          obtain ⟨b1, o1, hs1, he1⟩ := HI.out (by omega)
          have g1 := he1 j _ (List.getElem?_eq_getElem hkx)
          obtain ⟨x, hx⟩ : ∃ x, x = t.ins[j] := ⟨_, rfl⟩
          rw [← hx] at g1
          have hgx : t.ins[j]? = some x := by rw [hx]; exact List.getElem?_eq_getElem _
          obtain ⟨hx1, kx, hkx2, hr1⟩ := g1
          obtain ⟨sx, cx, hkv⟩ := hkx2.2
          obtain ⟨kl, hkl⟩ : ∃ kl, kl = x.key.length := ⟨_, rfl⟩
          rw [← hkl] at hkv
          subst hkv
          have p0 : 0 ≤ (j : Int) := by omega
          have q0 : (j : Int) < (ni : Int) := by omega
          have R1 := Lib.hid (range_below hr1 BW.out)
          have GX := Lib.hid hgx
          have XOK := Lib.hid hx1
          have ONE := Lib.hid (in_one x (.slice sx kl cx) rfl)
          have LX : Hid ((inL x (.slice sx kl cx)).length = 35) := inL_length x _ hx1.1
          have LX' : Hid ((inL x (.slice sx kl cx)).toArray.size = 35) := by show _ = _; rw [List.size_toArray]; exact LX.out
          subst hs1
          clear hx hgx he1 hx1 hkx2 hr1 hkl hkx
          obtain ⟨g6, hg6⟩ : ∃ g6, g6 = wr.heap.size := ⟨_, rfl⟩
          obtain ⟨_, f2, f3, f4⟩ := fill_setup (Below.refl wr.heap.size wr) (List.replicate 32 (bV 0) ++ [nV 0, .slice none 0 0, nV 0]).toArray (inL x (.slice sx kl cx)).toArray 46
          go_upto_region 9 with ((with_reducible show wpList _ _ _ _ _ _); first | (refine wpList_load_mid rfl 46 (.tmp 21) rfl b1 (o1 + j * 35) rfl (inL x (.slice sx kl cx)) _ R1.out Tryd.underlying46 rfl (by rw [LX.out]; kernel_rfl) ?_; go_frame) | (refine wpList_store_row rfl 46 (.tmp 8) (.tmp 22) rfl wr.heap.size (inL x (.slice sx kl cx)).toArray rfl rfl 46 _ (heap_alloc_new _ _) (by rw [LX'.out]; kernel_rfl) (by rw [LX'.out]; rfl) ONE.out ?_; go_frame))
          rw [← hg6] at f2 f3 f4 ⊢
          generalize hw6 : World.setRow _ _ _ = w6
          have e6 : World.setRow (wr.alloc (.cells (List.replicate 32 (bV 0) ++ [nV 0, .slice none 0 0, nV 0]).toArray 46)) g6 (inL x (.slice sx kl cx)).toArray = w6 := hw6
          rw [e6] at f2 f4
          rw [hg6] at f4
          have F6 := Lib.hid f2
          have B6 := Lib.hid (grownBy_below' BQ.out f4)
          have HM6 := Lib.hid (HQ.out.kept (grownBy_of_below f4 none) (by simp))
          clear f2 f3 f4 hg6 hw6 e6 HQ
          have LP : Hid ((ptL x.h x.n).length = 33) := by show _ = _; simp [ptL, XOK.out.1]
          have RP := Lib.hid (in_pt (range_of_box F6.out))
          go_wp2_with ((with_reducible show wpList _ _ _ _ _ _); first | (refine wpList_load_mid rfl 44 (.tmp 24) rfl g6 0 rfl (ptL x.h x.n) _ RP.out Tryd.underlying44 rfl (by rw [LP.out]; kernel_rfl) ?_; go_frame) | (refine wpList_buildTo rfl 111 _ rfl _ rfl #[] (by kernel_rfl) ?_; go_frame) | (refine wpList_mapUpdate_own _ rfl _ _ _ 110 rfl 44 111 pt_law Tryd.underlying110 _ mb (p.length + j) _ rfl HM6.out (by have := BS.out; unfold maxLen; omega) _ _ (ptLit x) rfl rfl (pt_key x XOK.out) (.agg []) [] unitElem_mk ?_; intro w7 ho7 hg7; have H7 := Lib.hid ho7; have G7 := Lib.hid hg7; clear ho7 hg7; go_frame))
          go_roundw
          case rel =>
            refine ⟨j + 1, by omega, by go_num, ?_, grownBy_trans B6.out G7.out⟩
            rw [app_take p GX.out, placesD_push]
            exact H7.out
          case measure => simp [intOf]; omega
        · have hjn : j = ni := by omega
          have hge : ¬ (j : Int) < (ni : Int) := by omega
          have c1 : wr.cell? ⟨g5, 1, none⟩ = some (.slice si ni ci) := (tx_cells (row_far FB.out BQ.out (by have := MLT.out; intro h; cases h; omega))).2.1
          have u1 : IntKind.i64.wrap ((p.length : Int) + (ni : Int)) = (p.length : Int) + (ni : Int) := i64_stays (by have := BS.out; omega)
          go_wp2_with fail
          go_roundw
          case rel =>
            have e : insAll (l.take (k + 1)) = p ++ t.ins := by rw [insAll_snoc GT.out, HP.out]
            refine ⟨k + 1, p.length + ni, by omega, by go_num, by rw [e, List.length_append, NI.out], by go_num, ?_, BW.out⟩
            have h := HQ.out
            rw [hjn, NI.out, List.take_length] at h
            rw [e, NI.out]
            exact h
          case measure => simp [intOf]; omega
    · have hkn : k = n := by omega
      have hge : ¬ (k : Int) < (n : Int) := by omega
      have h := HM.out
      rw [hkn, NN.out, List.take_length] at h
      have HM2 := Lib.hid h
      have hs2 := HSm.out
      rw [hkn, NN.out, List.take_length] at hs2
      have SS := Lib.hid hs2
      clear h hs2 HM
      obtain ⟨D, hD⟩ : ∃ D, D = placesD (insAll l) := ⟨_, rfl⟩
      rw [← hD] at HM2
      obtain ⟨sz, hsz⟩ : ∃ sz, sz = Maps.size D := ⟨_, rfl⟩
      have HR : Hid (decide (sz < s) = b) := by
        show _ = _
        rw [HBb.out, ← (twice_keys (insAll l) (insAll_ok l TS.out)).2, hsz, hD, placesD_size, SS.out]
      have SZ := Lib.hid hsz
      clear hkn hD hsz SS
      by_cases hb2 : sz < s
      · have e1 : (sz : Int) < (s : Int) := by omega
        obtain rfl : true = b := by rw [← HR.out, decide_eq_true hb2]
        clear hb2
        go_wp2_with (at_len; refine wpList_len_own _ rfl _ 110 rfl 44 111 Tryd.underlying110 _ mb s D rfl HM2.out ?_; rw [← SZ.out]; go_frame)
        go_ret
        exact ⟨rfl, B.out⟩
      · have e1 : ¬ (sz : Int) < (s : Int) := by omega
        obtain rfl : false = b := by rw [← HR.out, decide_eq_false hb2]
        clear hb2
        go_wp2_with (at_len; refine wpList_len_own _ rfl _ 110 rfl 44 111 Tryd.underlying110 _ mb s D rfl HM2.out ?_; rw [← SZ.out]; go_frame)
        go_ret
        exact ⟨rfl, B.out⟩
end Go.Proofs.YtdamhoagiooicaaDoor.Sha

/-
  Package head checks a header's work; a header's digest; the statements' first. Nothing that was there turns. Conditions: those that each states.
-/
namespace Go.Proofs.YtdamhoagiooicaaDoor.Sha
open Go Go.RowKit
/-- Is the work out of its range? -/
def workB (n : Nat) : Bool := decide (n = 0) || decide (16777216 < n)
set_option maxRecDepth 100000 in
theorem check_hd (h : THd) (hh : HdOk h) (w : World) (x : Addr) (hx : w.cell? ⟨4, 0, none⟩ = some (.iface 145 (.pointer (some x)))) (v : Value) (hv : v = if workB h.work then .iface 145 (.pointer (some x)) else .nilIface) :
    Calls Tryd.prog 41 #[.agg (hdL h).toArray] w fun e w' => e = .returned v ∧ Below w.heap.size w w' := by
  have HH := Lib.hid hh
  have HX := Lib.hid hx
  have HV := Lib.hid hv
  obtain ⟨cs, hcs⟩ : ∃ cs, cs = hdL h := ⟨_, rfl⟩
  rw [← hcs]
  have CS := Lib.hid hcs
  clear hcs hh hx hv
  go_enter Tryd.func41, Tryd.ntmps41
  go_upto_region 1 with fail
  rw [CS.out]
  obtain ⟨B, F⟩ := hd_box w h
  generalize hw1 : World.alloc w _ = w1
  rw [hw1] at B F
  have gx : w1.cell? ⟨4, 0, none⟩ = some (.iface 145 (.pointer (some x))) := by
    rw [B.cell (World.block_lt_of_cell? w _ HX.out)]
    exact HX.out
  have c66 := (F.cells HH.out).2.2.1
  obtain ⟨n, hn⟩ : ∃ n, n = h.work := ⟨_, rfl⟩
  rw [← hn] at c66
  have B := Lib.hid B
  have hv := HV.out
  rw [← hn] at hv
  clear F hw1 hn CS HV
  unfold workB at hv
  by_cases h1 : n = 0
  · subst h1
    obtain rfl : v = .iface 145 (.pointer (some x)) := hv
    go_wp2_with fail
    go_ret
    exact ⟨rfl, B.out⟩
  have t1 : ((n : Int) == 0) = false := by rw [beq_eq_false_iff_ne]; omega
  by_cases h2 : 16777216 < n
  · have t2 : (16777216 : Int) < (n : Int) := by omega
    obtain rfl : v = .iface 145 (.pointer (some x)) := by rw [hv, decide_eq_false h1, decide_eq_true h2]; rfl
    clear h1 h2 hv
    go_wp2_with fail
    go_ret
    exact ⟨rfl, B.out⟩
  · have t2 : ¬ (16777216 : Int) < (n : Int) := by omega
    obtain rfl : v = .nilIface := by rw [hv, decide_eq_false h1, decide_eq_false h2]; rfl
    clear h1 h2 hv
    go_wp2_with fail
    go_ret
    exact ⟨rfl, B.out⟩
end Go.Proofs.YtdamhoagiooicaaDoor.Sha

/-
  What is amiss with a block, and where: as plain data, and as the program's error. No conditions.
-/
namespace Go.Proofs.YtdamhoagiooicaaDoor.Sha
open Go Go.RowKit
/-- An error with a place around it, or none around it: the value. r: the error's number (its place in the document's order; 0: none), the place. -/
def FltV (w : World) (E : Nat → Addr) (v : Value) (r : Nat × Option Nat) : Prop :=
  (r.2 = none ∧ v = errV E r.1) ∨ ∃ q p g, r = (q + 1, some p) ∧ v = .iface 107 (.pointer (some ⟨g, 0, none⟩)) ∧ w.heap[g]? = some (.cells #[.int .i64 (p : Int), errV E (q + 1)] 109 (0, 0))
theorem FltV.below {w w' : World} {E : Nat → Addr} {v : Value} {r : Nat × Option Nat} (h : FltV w E v r) (hb : Below w.heap.size w w') : FltV w' E v r := by
  rcases h with h | ⟨q, p, g, h1, h2, h3⟩
  · exact .inl h
  · exact .inr ⟨q, p, g, h1, h2, row_below h3 hb⟩
/-- The first that may not be by itself. -/
def chkAt : Nat → List TTx → Option (Nat × Nat)
  | _, [] => none
  | i, t :: l => if checkC t = 0 then chkAt (i + 1) l else some (i, checkC t)
/-- The first that may not be where it stands. -/
def basAt : Nat → List TTx → Option Nat
  | _, [] => none
  | i, t :: l => if baseB t = decide (i = 0) then basAt (i + 1) l else some i
theorem chkAt_none : ∀ (l : List TTx) (i : Nat), (∀ (j : Nat) (t : TTx), l[j]? = some t → checkC t = 0) → chkAt i l = none
  | [], _, _ => rfl
  | t :: l, i, h => by
    unfold chkAt
    rw [if_pos (h 0 t rfl)]
    exact chkAt_none l (i + 1) (fun j u hu => h (j + 1) u hu)
theorem chkAt_some : ∀ (l : List TTx) (i k : Nat) (t : TTx), (∀ (j : Nat) (u : TTx), j < k → l[j]? = some u → checkC u = 0) → l[k]? = some t → checkC t ≠ 0 → chkAt i l = some (i + k, checkC t)
  | u :: l, i, 0, t, _, h, hc => by
    simp only [List.getElem?_cons_zero, Option.some.injEq] at h
    subst h
    unfold chkAt
    rw [if_neg hc]
    rfl
  | u :: l, i, k + 1, t, h0, h, hc => by
    unfold chkAt
    rw [if_pos (h0 0 u (by omega) rfl), chkAt_some l (i + 1) k t (fun j v hj hv => h0 (j + 1) v (by omega) hv) h hc, show i + 1 + k = i + (k + 1) by omega]
theorem basAt_none : ∀ (l : List TTx) (i : Nat), (∀ (j : Nat) (t : TTx), l[j]? = some t → baseB t = decide (i + j = 0)) → basAt i l = none
  | [], _, _ => rfl
  | t :: l, i, h => by
    unfold basAt
    rw [if_pos (show baseB t = decide (i = 0) from h 0 t rfl)]
    exact basAt_none l (i + 1) (fun j u hu => by rw [h (j + 1) u hu, show i + (j + 1) = i + 1 + j by omega])
theorem basAt_some : ∀ (l : List TTx) (i k : Nat) (t : TTx), (∀ (j : Nat) (u : TTx), j < k → l[j]? = some u → baseB u = decide (i + j = 0)) → l[k]? = some t → baseB t ≠ decide (i + k = 0) → basAt i l = some (i + k)
  | u :: l, i, 0, t, _, h, hc => by
    simp only [List.getElem?_cons_zero, Option.some.injEq] at h
    subst h
    unfold basAt
    rw [if_neg (show ¬ baseB u = decide (i = 0) from hc)]
    rfl
  | u :: l, i, k + 1, t, h0, h, hc => by
    unfold basAt
    rw [if_pos (show baseB u = decide (i = 0) from h0 0 u (by omega) rfl), basAt_some l (i + 1) k t (fun j v hj hv => by rw [h0 (j + 1) v (by omega) hv, show i + (j + 1) = i + 1 + j by omega]) h (by rw [show i + 1 + k = i + (k + 1) by omega]; exact hc), show i + 1 + k = i + (k + 1) by omega]
/-- What is amiss with one of them, and where. -/
def eachR (l : List TTx) : Nat × Option Nat := match chkAt 0 l with
  | some (p, c) => (c, some p)
  | none => match basAt 0 l with
    | some p => (7, some p)
    | none => (0, none)
theorem eachR_chk {l : List TTx} {k : Nat} {t : TTx} (h : ∀ (j : Nat) (u : TTx), j < k → l[j]? = some u → checkC u = 0) (ht : l[k]? = some t) (hc : checkC t ≠ 0) : eachR l = (checkC t, some k) := by
  unfold eachR
  rw [chkAt_some l 0 k t h ht hc, Nat.zero_add]
theorem eachR_bas {l : List TTx} {k : Nat} {t : TTx} (h0 : ∀ (j : Nat) (u : TTx), l[j]? = some u → checkC u = 0) (h : ∀ (j : Nat) (u : TTx), j < k → l[j]? = some u → baseB u = decide (j = 0)) (ht : l[k]? = some t) (hc : baseB t ≠ decide (k = 0)) : eachR l = (7, some k) := by
  unfold eachR
  rw [chkAt_none l 0 h0, basAt_some l 0 k t (fun j u hj hu => by rw [Nat.zero_add]; exact h j u hj hu) ht (by rw [Nat.zero_add]; exact hc), Nat.zero_add]
theorem eachR_fine {l : List TTx} (h0 : ∀ (j : Nat) (u : TTx), l[j]? = some u → checkC u = 0) (h : ∀ (j : Nat) (u : TTx), l[j]? = some u → baseB u = decide (j = 0)) : eachR l = (0, none) := by
  unfold eachR
  rw [chkAt_none l 0 h0, basAt_none l 0 (fun j u hu => by rw [Nat.zero_add]; exact h j u hu)]
/-- What is amiss with a block, and where. -/
def blkR (x : TBlk) : Nat × Option Nat :=
  if workB x.head.work = true then (22, none) else if x.txs.length = 0 ∨ 200 < x.txs.length then (4, none) else if 20000 < (blkB x).length then (3, none)
  else if (eachR x.txs).1 ≠ 0 then eachR x.txs else if twiceB (insAll x.txs) = true then (6, none) else if blRoot x = x.head.root then (0, none) else (8, none)
end Go.Proofs.YtdamhoagiooicaaDoor.Sha

/-
  Package block tells what is amiss with one of a block's transactions, and where. Nothing that was there turns. Conditions: a few transactions that lie in memory; the errors are there.
-/
namespace Go.Proofs.YtdamhoagiooicaaDoor.Sha
open Go Go.RowKit
def EaInv (n : Nat) (P : Nat → Prop) (w1 : World) (vi : Value) (wr : World) : Prop := ∃ k : Nat, k ≤ n ∧ vi = .int .i64 k ∧ P k ∧ Below w1.heap.size w1 wr
set_option maxHeartbeats 2000000 in
set_option maxRecDepth 100000 in
theorem bleach_any (E : Nat → Addr) (l : List TTx) (v : Value) (w : World) (h1 : TxsAt w v l) (hs : ∀ t ∈ l, TxSmall t) (hl : l.length ≤ 1000) (hE : Er6 w E) :
    Calls Tryd.prog 42 #[v] w fun e w' => ∃ u, e = .returned u ∧ FltV w' E u (eachR l) ∧ Below w.heap.size w w' := by
  obtain ⟨sp, cap, rfl⟩ := h1.shape
  obtain ⟨n, hn⟩ : ∃ n, n = l.length := ⟨_, rfl⟩
  rw [← hn] at h1 ⊢
  have HT := Lib.hid h1
  have NN := Lib.hid hn
  have TS := Lib.hid hs
  have HE := Lib.hid hE
  have bn : n ≤ 1000 := by rw [hn]; exact hl
  have B0 : Hid (Below w.heap.size w w) := Below.refl _ _
  clear h1 hn hs hl hE
  go_enter Tryd.func42, Tryd.ntmps42
  go_wp2_with fail
  go_loopw [10] (fun vi wr => EaInv n (fun k => ∀ (j : Nat) (u : TTx), j < k → l[j]? = some u → checkC u = 0) w vi wr) (fun i _ => n - (intOf i).toNat)
  case atStart => exact ⟨0, by omega, rfl, fun j u hj => by omega, Below.refl _ _⟩
  case round =>
    obtain ⟨k, hk, rfl, hp, B⟩ := hrel
    have B := Lib.hid B
    have HP := Lib.hid hp
    clear hp
    by_cases hlt : k < n
    · skip
      obtain ⟨b, o, hs1, _, hg⟩ := HT.out.get (by omega)
      obtain ⟨t, hgt⟩ : ∃ t, l[k]? = some t := ⟨_, List.getElem?_eq_getElem (by have := NN.out; omega)⟩
      obtain ⟨iv, ov, hr, hta⟩ := hg k t hgt
      have LC : Hid ((txL t iv ov).length = 4) := rfl
      have LC' : Hid ((txL t iv ov).toArray.size = 4) := rfl
      have ONE : Hid ((txL t iv ov).toArray.all (·.oneCell') = true) := by
        obtain ⟨_, iv', ov', e, h1, h2⟩ := hta
        have e : txL t iv ov = txL t iv' ov' := by simpa using e
        rw [e]
        exact tx_one h1 h2
      obtain ⟨ct, hct⟩ : ∃ ct, ct = txL t iv ov := ⟨_, rfl⟩
      rw [← hct] at hr hta LC LC' ONE
      have R := Lib.hid (range_below (range_below hr B0.out) B.out)
      have TW := Lib.hid hta
      have TA : Hid (∀ W, Below wr.heap.size wr W → TxAt W (.agg ct.toArray) t) := fun W hW => ((hta.below B0.out).below B.out).below hW
      have GT := Lib.hid hgt
      have p0 : 0 ≤ (k : Int) := by omega
      have q0 : (k : Int) < (n : Int) := by omega
      subst hs1
      clear hg hgt hr hta hct
      obtain ⟨g5, hg5⟩ : ∃ g5, g5 = wr.heap.size := ⟨_, rfl⟩
      obtain ⟨_, f2, f3, f4⟩ := fill_setup (Below.refl wr.heap.size wr) [nV 0, .slice none 0 0, .slice none 0 0, nV 0].toArray ct.toArray 32
      go_upto_region 4 with ((with_reducible show wpList _ _ _ _ _ _); first | (refine wpList_load_mid rfl 32 (.tmp 13) rfl b (o + k * 4) rfl ct _ R.out Tryd.underlying32 rfl (by rw [LC.out]; kernel_rfl) ?_; go_frame) | (refine wpList_store_row rfl 32 (.tmp 4) (.tmp 14) rfl wr.heap.size ct.toArray rfl rfl 32 _ (heap_alloc_new _ _) (by rw [LC'.out]; kernel_rfl) (by rw [LC'.out]; rfl) ONE.out ?_; go_frame))
      rw [← hg5] at f2 f3 f4 ⊢
      generalize hw5 : World.setRow _ _ _ = w5
      have e5 : World.setRow (wr.alloc (.cells [nV 0, .slice none 0 0, .slice none 0 0, nV 0].toArray 32)) g5 ct.toArray = w5 := hw5
      rw [e5] at f2 f4
      rw [hg5] at f4
      have F5 := Lib.hid f2
      have N5 := Lib.hid f4
      have B5 := Lib.hid (B.out.trans (f4.mono B.out.size))
      have G5 := Lib.hid hg5
      clear f2 f3 f4 hg5 hw5 e5
      obtain ⟨c, hc⟩ : ∃ c, c = checkC t := ⟨_, rfl⟩
      have TSM := Lib.hid (TS.out t (List.mem_of_getElem? GT.out))
      have CK : Hid (Calls Tryd.prog 69 #[.agg ct.toArray] w5 fun e w' => e = .returned (errV E c) ∧ Below w5.heap.size w5 w') := check_all E t _ w5 c hc (HE.out.below B5.out) (TA.out _ N5.out) TSM.out
      have HC := Lib.hid hc
      clear hc
      cases c with
      | zero =>
        have CK2 : Hid (Calls Tryd.prog 69 #[.agg ct.toArray] w5 fun e w' => e = .returned .nilIface ∧ Below w5.heap.size w5 w') := CK.out
        go_wp2_with (first | ((with_reducible show wpList _ _ _ _ _ _); (refine wpList_load_row rfl 32 (.tmp 4) rfl g5 rfl 32 ct.toArray (0, 0) _ F5.out Tryd.underlying32 rfl (by rw [LC'.out]; kernel_rfl) ?_; go_frame)) | (go_at_call 69; refine CK2.out.mono ?_; rintro e w6 ⟨rfl, hb6⟩; have B6 := Lib.hid (B5.out.trans (hb6.mono B5.out.size)); clear hb6))
        go_roundw
        case rel =>
          refine ⟨k + 1, by omega, by go_num, fun j u hj hu => ?_, B6.out⟩
          by_cases hjk : j < k
          · exact HP.out j u hjk hu
          · obtain rfl : j = k := by omega
            rw [GT.out] at hu
            cases hu
            exact HC.out.symm
        case measure => simp [intOf]; omega
      | succ q =>
        have CK2 : Hid (Calls Tryd.prog 69 #[.agg ct.toArray] w5 fun e w' => e = .returned (.iface 145 (.pointer (some (E q)))) ∧ Below w5.heap.size w5 w') := CK.out
        go_wp2_with (first | ((with_reducible show wpList _ _ _ _ _ _); first | (refine wpList_load_row rfl 32 (.tmp 4) rfl g5 rfl 32 ct.toArray (0, 0) _ F5.out Tryd.underlying32 rfl (by rw [LC'.out]; kernel_rfl) ?_; go_frame) | (refine wpList_buildTo rfl 109 _ rfl _ rfl #[.int .i64 (k : Int), .iface 145 (.pointer (some (E q)))] (by kernel_rfl) ?_; go_frame)) | (go_at_call 69; refine CK2.out.mono ?_; rintro e w6 ⟨rfl, hb6⟩; have B6 := Lib.hid (B5.out.trans (hb6.mono B5.out.size)); clear hb6))
        go_ret
        refine ⟨_, rfl, .inr ⟨q, k, w6.heap.size, ?_, rfl, heap_alloc_new _ _⟩, B6.out.alloc B6.out.size _⟩
        rw [eachR_chk HP.out GT.out (by rw [← HC.out]; omega), HC.out]
    · have hkn : k = n := by omega
      have hge : ¬ (k : Int) < (n : Int) := by omega
      have H0 : Hid (∀ (j : Nat) (u : TTx), l[j]? = some u → checkC u = 0) := fun j u hu => HP.out j u (by have := (List.getElem?_eq_some_iff.1 hu).1; have := NN.out; omega) hu
      clear hkn
      obtain ⟨wo, rfl⟩ : ∃ wo : World, wo = wr := ⟨_, rfl⟩
      have BO := Lib.hid B.out
      clear B HP
      go_wp2_with fail
      go_loopw [27] (fun vi wr => EaInv n (fun k => ∀ (j : Nat) (u : TTx), j < k → l[j]? = some u → baseB u = decide (j = 0)) w vi wr) (fun i _ => n - (intOf i).toNat)
      case atStart => exact ⟨0, by omega, rfl, fun j u hj => by omega, BO.out⟩
      case round =>
        clear BO hlt hge hk
        obtain ⟨k, hk, rfl, hp, B⟩ := hrel
        have B := Lib.hid B
        have HP := Lib.hid hp
        clear hp
        by_cases hlt : k < n
        · skip
          obtain ⟨b, o, hs1, _, hg⟩ := HT.out.get (by omega)
          obtain ⟨t, hgt⟩ : ∃ t, l[k]? = some t := ⟨_, List.getElem?_eq_getElem (by have := NN.out; omega)⟩
          obtain ⟨iv, ov, hr, hta⟩ := hg k t hgt
          have LC : Hid ((txL t iv ov).length = 4) := rfl
          have LC' : Hid ((txL t iv ov).toArray.size = 4) := rfl
          have ONE : Hid ((txL t iv ov).toArray.all (·.oneCell') = true) := by
            obtain ⟨_, iv', ov', e, h1, h2⟩ := hta
            have e : txL t iv ov = txL t iv' ov' := by simpa using e
            rw [e]
            exact tx_one h1 h2
          obtain ⟨ct, hct⟩ : ∃ ct, ct = txL t iv ov := ⟨_, rfl⟩
          rw [← hct] at hr hta LC LC' ONE
          have R := Lib.hid (range_below (range_below hr B0.out) B.out)
          have TW := Lib.hid hta
          have TA : Hid (∀ W, Below wr.heap.size wr W → TxAt W (.agg ct.toArray) t) := fun W hW => ((hta.below B0.out).below B.out).below hW
          have GT := Lib.hid hgt
          have p0 : 0 ≤ (k : Int) := by omega
          have q0 : (k : Int) < (n : Int) := by omega
          subst hs1
          clear hg hgt hr hta hct
          obtain ⟨g5, hg5⟩ : ∃ g5, g5 = wr.heap.size := ⟨_, rfl⟩
          obtain ⟨_, f2, f3, f4⟩ := fill_setup (Below.refl wr.heap.size wr) [nV 0, .slice none 0 0, .slice none 0 0, nV 0].toArray ct.toArray 32
          go_upto_region 11 with ((with_reducible show wpList _ _ _ _ _ _); first | (refine wpList_load_mid rfl 32 (.tmp 30) rfl b (o + k * 4) rfl ct _ R.out Tryd.underlying32 rfl (by rw [LC.out]; kernel_rfl) ?_; go_frame) | (refine wpList_store_row rfl 32 (.tmp 7) (.tmp 31) rfl wr.heap.size ct.toArray rfl rfl 32 _ (heap_alloc_new _ _) (by rw [LC'.out]; kernel_rfl) (by rw [LC'.out]; rfl) ONE.out ?_; go_frame))
          rw [← hg5] at f2 f3 f4 ⊢
          generalize hw5 : World.setRow _ _ _ = w5
          have e5 : World.setRow (wr.alloc (.cells [nV 0, .slice none 0 0, .slice none 0 0, nV 0].toArray 32)) g5 ct.toArray = w5 := hw5
          rw [e5] at f2 f4
          rw [hg5] at f4
          have F5 := Lib.hid f2
          have N5 := Lib.hid f4
          have B5 := Lib.hid (B.out.trans (f4.mono B.out.size))
          have G5 := Lib.hid hg5
          clear f2 f3 f4 hg5 hw5 e5
          obtain ⟨c, hc⟩ : ∃ c, c = baseB t := ⟨_, rfl⟩
          have CK : Hid (Calls Tryd.prog 70 #[.agg ct.toArray] w5 fun e w' => e = .returned (.bool c) ∧ Below w5.heap.size w5 w') := base_all t _ w5 c hc (TA.out _ N5.out) (TS.out t (List.mem_of_getElem? GT.out))
          have HC := Lib.hid hc
          obtain ⟨d, hd⟩ : ∃ d, d = decide (k = 0) := ⟨_, rfl⟩
          have e1 : ((k : Int) == 0) = d := by rw [hd, Bool.eq_iff_iff, beq_iff_eq, decide_eq_true_eq]; omega
          have HD := Lib.hid hd
          clear hc hd
          have q7 : ∀ W, Below w5.heap.size w5 W → W.cell? ⟨5, 0, none⟩ = some (.iface 145 (.pointer (some (E 6)))) := fun W hW => ((HE.out.below B5.out).below hW) 6 (by omega)
          have Q7 := Lib.hid q7
          clear q7
          by_cases hcd : c = d
          · subst hcd
            have e2 : (c != c) = false := by simp
            go_wp2_with (first | ((with_reducible show wpList _ _ _ _ _ _); (refine wpList_load_row rfl 32 (.tmp 7) rfl g5 rfl 32 ct.toArray (0, 0) _ F5.out Tryd.underlying32 rfl (by rw [LC'.out]; kernel_rfl) ?_; go_frame)) | (go_at_call 70; refine CK.out.mono ?_; rintro e w6 ⟨rfl, hb6⟩; have B6 := Lib.hid (B5.out.trans (hb6.mono B5.out.size)); clear hb6))
            go_roundw
            case rel =>
              refine ⟨k + 1, by omega, by go_num, fun j u hj hu => ?_, B6.out⟩
              by_cases hjk : j < k
              · exact HP.out j u hjk hu
              · obtain rfl : j = k := by omega
                rw [GT.out] at hu
                cases hu
                rw [← HC.out, HD.out]
            case measure => simp [intOf]; omega
          · have HCD := Lib.hid hcd
            obtain ⟨rfl, rfl⟩ | ⟨rfl, rfl⟩ : (c = true ∧ d = false) ∨ (c = false ∧ d = true) := by cases c <;> cases d <;> simp_all
            all_goals
              clear hcd
              go_wp2_with (first | ((with_reducible show wpList _ _ _ _ _ _); first | (refine wpList_load_row rfl 32 (.tmp 7) rfl g5 rfl 32 ct.toArray (0, 0) _ F5.out Tryd.underlying32 rfl (by rw [LC'.out]; kernel_rfl) ?_; go_frame) | (refine wpList_buildTo rfl 109 _ rfl _ rfl #[.int .i64 (k : Int), .iface 145 (.pointer (some (E 6)))] (by kernel_rfl) ?_; go_frame)) | (go_at_call 70; refine CK.out.mono ?_; rintro e w6 ⟨rfl, hb6⟩; have B6 := Lib.hid (B5.out.trans (hb6.mono B5.out.size)); have q8 := Q7.out w6 hb6; clear hb6))
              go_ret
              refine ⟨_, rfl, .inr ⟨6, k, w6.heap.size, ?_, rfl, heap_alloc_new _ _⟩, B6.out.alloc B6.out.size _⟩
              rw [eachR_bas H0.out HP.out GT.out (by rw [← HC.out, ← HD.out]; exact HCD.out)]
        · have hkn : k = n := by omega
          have hge : ¬ (k : Int) < (n : Int) := by omega
          have H1 : Hid (∀ (j : Nat) (u : TTx), l[j]? = some u → baseB u = decide (j = 0)) := fun j u hu => HP.out j u (by have := (List.getElem?_eq_some_iff.1 hu).1; have := NN.out; omega) hu
          clear hkn
          go_wp2_with fail
          go_ret
          exact ⟨_, rfl, .inl (by rw [eachR_fine H0.out H1.out]; exact ⟨rfl, rfl⟩), B.out⟩
end Go.Proofs.YtdamhoagiooicaaDoor.Sha

/-
  Package block tells what is amiss with a block, and where. Nothing that was there turns. Conditions: a block of a few transactions that lies in memory; the errors and the table are there.
-/
namespace Go.Proofs.YtdamhoagiooicaaDoor.Sha
open Go Go.RowKit
set_option maxHeartbeats 4000000 in
set_option maxRecDepth 100000 in
theorem blcheck_any (E : Nat → Addr) (x : TBlk) (v : Value) (w : World) (h1 : BlkAt w v x) (hs : BlkSmall x) (hk : KTab w) (hE : ErB w E) :
    Calls Tryd.prog 16 #[v] w fun e w' => ∃ u, e = .returned u ∧ FltV w' E u (blkR x) ∧ Below w.heap.size w w' := by
  have HK := Lib.hid hk
  have HE := Lib.hid hE
  have SZL := Lib.hid (hs.len h1.1)
  clear hk hE
  obtain ⟨hh, tv, rfl, ht⟩ := h1
  obtain ⟨sp, cap, rfl⟩ := ht.shape
  obtain ⟨n, hn⟩ : ∃ n, n = x.txs.length := ⟨_, rfl⟩
  rw [← hn] at ht ⊢
  have hcap : n ≤ cap := ht.len.2
  obtain ⟨cs, hcs⟩ : ∃ cs, cs = blL x.head (.slice sp n cap) := ⟨_, rfl⟩
  rw [← hcs]
  have CS := Lib.hid hcs
  have LCS : Hid (cs.length = 69) := by show _ = _; rw [hcs]; exact blL_length hh _
  have LCS' : Hid (cs.toArray.size = 69) := by show _ = _; rw [hcs]; exact blL_size hh _
  have BV : Hid (∀ W, Below w.heap.size w W → BlkAt W (.agg cs.toArray) x) := fun W hW => by rw [hcs]; exact ⟨hh, _, rfl, ht.below hW⟩
  have HH := Lib.hid hh
  have HT := Lib.hid ht
  have NN := Lib.hid hn
  have TS := Lib.hid hs
  have bn : n ≤ 1000 := by rw [hn]; exact hs.2
  clear hs
  clear hcs hh ht hn
  go_enter Tryd.func16, Tryd.ntmps16
  go_upto_region 1 with fail
  have f0 := heap_alloc_new w (.cells cs.toArray 39 (0, 0))
  have b0 := (Below.refl w.heap.size w).alloc (Nat.le_refl _) (.cells cs.toArray 39 (0, 0))
  generalize hw1 : World.alloc _ _ = w1
  have e1 : w.alloc (.cells cs.toArray 39 (0, 0)) = w1 := hw1
  rw [e1] at f0 b0
  have k0 := f0
  rw [CS.out] at k0
  have K : Hid (BlBox w1 w.heap.size x.head (.slice sp n cap)) := ⟨k0⟩
  have F0 := Lib.hid f0
  have B0 := Lib.hid b0
  clear hw1 e1 f0 b0 k0
  obtain ⟨wk, hwk⟩ : ∃ wk, wk = x.head.work := ⟨_, rfl⟩
  obtain ⟨ce, hce⟩ : ∃ ce, ce = if workB wk then Value.iface 145 (.pointer (some (E 21))) else .nilIface := ⟨_, rfl⟩
  have HC : Hid (Calls Tryd.prog 41 #[.agg (hdL x.head).toArray] w1 fun e w' => e = .returned ce ∧ Below w1.heap.size w1 w') :=
    check_hd x.head HH.out w1 (E 21) ((HE.out.below B0.out) 21 (by omega)) ce (by rw [hce, hwk])
  have HR : Hid (w1.rangeAt w.heap.size 0 (hdL x.head)) := K.out.head
  have HL : Hid ((hdL x.head).length = 68) := hdL_length HH.out
  obtain ⟨hl, hhl⟩ : ∃ hl, hl = hdL x.head := ⟨_, rfl⟩
  rw [← hhl] at HC HR HL
  have WK := Lib.hid hwk
  have CE := Lib.hid hce
  clear hhl hwk hce
  go_upto_region 2 with (first | ((with_reducible show wpList _ _ _ _ _ _); refine wpList_load_mid rfl 36 (.tmp 5) rfl w.heap.size 0 rfl hl _ HR.out Tryd.underlying36 rfl (by rw [HL.out]; kernel_rfl) ?_; go_frame) | (go_at_call 41; refine HC.out.mono ?_; rintro e w2 ⟨rfl, hb2⟩; have B2 := Lib.hid (B0.out.trans (hb2.mono B0.out.size)); have N2 := Lib.hid hb2; clear hb2))
  clear HC HR HL
  by_cases hw : workB wk = true
  · obtain rfl : ce = .iface 145 (.pointer (some (E 21))) := by rw [CE.out, if_pos hw]
    have HW := Lib.hid hw
    clear hw
    go_wp2_with fail
    go_ret
    exact ⟨_, rfl, .inl (by unfold blkR; rw [if_pos (by rw [← WK.out]; exact HW.out)]; exact ⟨rfl, rfl⟩), B2.out⟩
  obtain rfl : ce = .nilIface := by rw [CE.out, if_neg hw]
  have HW : Hid (blkR x = if x.txs.length = 0 ∨ 200 < x.txs.length then (4, none) else if 20000 < (blkB x).length then (3, none)
      else if (eachR x.txs).1 ≠ 0 then eachR x.txs else if twiceB (insAll x.txs) = true then (6, none) else if blRoot x = x.head.root then (0, none) else (8, none)) := by
    show _ = _
    unfold blkR
    rw [if_neg (by rw [← WK.out]; exact hw)]
  clear hw CE
  have c68 : w2.cell? ⟨w.heap.size, 68, none⟩ = some (.slice sp n cap) := (K.out.below N2.out).txs HH.out
  have q3 : w2.cell? ⟨0, 0, none⟩ = some (.iface 145 (.pointer (some (E 3)))) := (HE.out.below B2.out) 3 (by omega)
  have F2 := Lib.hid (row_below F0.out N2.out)
  by_cases hn0 : n = 0
  · subst hn0
    go_wp2_with fail
    go_ret
    exact ⟨_, rfl, .inl (by rw [HW.out, if_pos (.inl NN.out.symm)]; exact ⟨rfl, rfl⟩), B2.out⟩
  have t0 : ((n : Int) == 0) = false := by rw [beq_eq_false_iff_ne]; omega
  by_cases hn2 : 200 < n
  · have t1 : (n : Int) > 200 := by omega
    have HN2 := Lib.hid hn2
    clear hn0 hn2
    go_wp2_with fail
    go_ret
    exact ⟨_, rfl, .inl (by rw [HW.out, if_pos (.inr (by rw [← NN.out]; exact HN2.out))]; exact ⟨rfl, rfl⟩), B2.out⟩
  have t1 : ¬ (n : Int) > 200 := by omega
  have HW2 : Hid (blkR x = if 20000 < (blkB x).length then (3, none)
      else if (eachR x.txs).1 ≠ 0 then eachR x.txs else if twiceB (insAll x.txs) = true then (6, none) else if blRoot x = x.head.root then (0, none) else (8, none)) := by
    show _ = _
    rw [HW.out, if_neg (by rw [← NN.out]; omega)]
  clear HW hn0 hn2
  obtain ⟨sz, hsz⟩ : ∃ sz, sz = (blkB x).length := ⟨_, rfl⟩
  rw [← hsz] at HW2 SZL
  have bsz : sz ≤ 200200000000 := SZL.out
  have SZ : Hid (Calls Tryd.prog 25 #[.agg cs.toArray] w2 fun e w' => e = .returned (.int .i64 (sz : Int)) ∧ Below w2.heap.size w2 w') := by
    rw [hsz]
    exact blsize_any x _ w2 (BV.out w2 B2.out) TS.out
  clear hsz q3
  by_cases h20 : 20000 < sz
  · have t2 : (sz : Int) > 20000 := by omega
    have H20 := Lib.hid h20
    have QL : Hid (∀ W, Below w.heap.size w W → W.cell? ⟨1, 0, none⟩ = some (.iface 145 (.pointer (some (E 2))))) := fun W hW => (HE.out.below hW) 2 (by omega)
    clear h20
    go_wp2_with (first | ((with_reducible show wpList _ _ _ _ _ _); (refine wpList_load_row rfl 39 (.tmp 1) rfl w.heap.size rfl 39 cs.toArray (0, 0) _ F2.out Tryd.underlying39 rfl (by rw [LCS'.out]; kernel_rfl) ?_; go_frame)) | (go_at_call 25; refine SZ.out.mono ?_; rintro e w3 ⟨rfl, hb3⟩; have B3 := Lib.hid (B2.out.trans (hb3.mono B2.out.size)); have q2 := QL.out _ B3.out; clear hb3))
    go_ret
    exact ⟨_, rfl, .inl (by rw [HW2.out, if_pos H20.out]; exact ⟨rfl, rfl⟩), B3.out⟩
  have t2 : ¬ (sz : Int) > 20000 := by omega
  have HW3 : Hid (blkR x = if (eachR x.txs).1 ≠ 0 then eachR x.txs else if twiceB (insAll x.txs) = true then (6, none) else if blRoot x = x.head.root then (0, none) else (8, none)) := by
    show _ = _
    rw [HW2.out, if_neg h20]
  clear HW2 h20
  go_upto_region 9 with (first | ((with_reducible show wpList _ _ _ _ _ _); (refine wpList_load_row rfl 39 (.tmp 1) rfl w.heap.size rfl 39 cs.toArray (0, 0) _ F2.out Tryd.underlying39 rfl (by rw [LCS'.out]; kernel_rfl) ?_; go_frame)) | (go_at_call 25; refine SZ.out.mono ?_; rintro e w3 ⟨rfl, hb3⟩; have B3 := Lib.hid (B2.out.trans (hb3.mono B2.out.size)); have N3 := Lib.hid (N2.out.trans (hb3.mono N2.out.size)); clear hb3))
  clear c68 SZ t0 t1 t2
  have c68 : w3.cell? ⟨w.heap.size, 68, none⟩ = some (.slice sp n cap) := (K.out.below N3.out).txs HH.out
  have EC : Hid (Calls Tryd.prog 42 #[.slice sp n cap] w3 fun e w' => ∃ u, e = .returned u ∧ FltV w' E u (eachR x.txs) ∧ Below w3.heap.size w3 w') :=
    bleach_any E x.txs _ w3 (HT.out.below B3.out) TS.out.1 TS.out.2 (HE.out.below B3.out).e6
  go_wp2_with fail
  refine EC.out.mono ?_
  rintro e w4 ⟨u, rfl, hf, hb4⟩
  have B4 := Lib.hid (B3.out.trans (hb4.mono B3.out.size))
  have N4 := Lib.hid (N3.out.trans (hb4.mono N3.out.size))
  obtain ⟨er, her⟩ : ∃ er, er = eachR x.txs := ⟨_, rfl⟩
  rw [← her] at hf HW3
  clear c68 EC hb4 her
  rcases hf with ⟨hn, hu⟩ | ⟨q, p, g, hr, hu, hg⟩
  · obtain ⟨c, o⟩ := er
    obtain rfl : o = none := hn
    cases c with
    | succ q =>
      obtain rfl : u = .iface 145 (.pointer (some (E q))) := hu
      go_wp2_with fail
      go_ret
      exact ⟨_, rfl, .inl (by rw [HW3.out, if_pos (by simp)]; exact ⟨rfl, rfl⟩), B4.out⟩
    | zero =>
      obtain rfl : u = .nilIface := hu
      have HW4 : Hid (blkR x = if twiceB (insAll x.txs) = true then (6, none) else if blRoot x = x.head.root then (0, none) else (8, none)) := by
        show _ = _
        rw [HW3.out, if_neg (by simp)]
      clear HW3
      go_upto_region 12 with fail
      obtain ⟨tb, htb⟩ : ∃ tb, tb = twiceB (insAll x.txs) := ⟨_, rfl⟩
      rw [← htb] at HW4
      have TB : Hid (Calls Tryd.prog 43 #[.slice sp n cap] w4 fun e w' => e = .returned (.bool tb) ∧ Below w4.heap.size w4 w') :=
        bltwice_any x.txs _ w4 (HT.out.below B4.out) TS.out.1 TS.out.2 tb htb
      have c68 : w4.cell? ⟨w.heap.size, 68, none⟩ = some (.slice sp n cap) := (K.out.below N4.out).txs HH.out
      clear htb
      go_wp2_with fail
      refine TB.out.mono ?_
      rintro e w5 ⟨rfl, hb5⟩
      have B5 := Lib.hid (B4.out.trans (hb5.mono B4.out.size))
      have N5 := Lib.hid (N4.out.trans (hb5.mono N4.out.size))
      clear c68 TB hb5
      cases tb with
      | true =>
        have q5 : w5.cell? ⟨2, 0, none⟩ = some (.iface 145 (.pointer (some (E 5)))) := (HE.out.below B5.out) 5 (by omega)
        go_wp2_with fail
        go_ret
        exact ⟨_, rfl, .inl (by rw [HW4.out, if_pos (by simp)]; exact ⟨rfl, rfl⟩), B5.out⟩
      | false =>
        have HW5 : Hid (blkR x = if blRoot x = x.head.root then (0, none) else (8, none)) := by
          show _ = _
          rw [HW4.out, if_neg (by simp)]
        clear HW4
        go_wp2_with fail
        have K5 := Lib.hid (K.out.below N5.out)
        have F5 := Lib.hid (row_below F0.out N5.out)
        obtain ⟨R, hR⟩ : ∃ R, R = blRoot x := ⟨_, rfl⟩
        obtain ⟨R2, hR2⟩ : ∃ R2, R2 = x.head.root := ⟨_, rfl⟩
        have LR : Hid (R.length = 32) := by show _ = _; rw [hR]; exact blRoot_length x
        have LR2 : Hid (R2.length = 32) := by show _ = _; rw [hR2]; exact HH.out.2.2.1
        rw [← hR, ← hR2] at HW5
        have RC : Hid (∀ W, Below w.heap.size w W → Calls Tryd.prog 15 #[.agg cs.toArray] W fun e w' => e = .returned (.agg (R.map bV).toArray) ∧ Below W.heap.size W w') := fun W hW => by
          rw [hR]
          exact blroot_any x _ W (BV.out W hW) TS.out (HK.out.below hW)
        have RG : Hid (∀ W, Below w5.heap.size w5 W → W.rangeAt w.heap.size 33 (R2.map bV)) := fun W hW => by rw [hR2]; exact (K5.out.below hW).root HH.out
        have LX2 : Hid ((R2.map bV).length = 32) := by show _ = _; rw [List.length_map, LR2.out]
        have QR : Hid (∀ W, Below w.heap.size w W → W.cell? ⟨3, 0, none⟩ = some (.iface 145 (.pointer (some (E 7))))) := fun W hW => (HE.out.below hW) 7 (by omega)
        have nh := run_neq_hash R R2 LR.out LR2.out
        clear hR hR2
        refine wp_region_held_drew (S := (fun w' => Below w5.heap.size w5 w')) (by kernel_rfl) (Below.drew (Below.refl _ _)) (fun hHeld => ?_)
        generalize hwd : w5.drew = wd at hHeld ⊢
        clear hwd
        refine held_take (i := 0) (v := (.agg cs.toArray)) rfl (by kernel_rfl) (by kernel_rfl) (by kernel_rfl) (fun _ _ _ h => h) (yieldsIf_load_row (by rfl) 39 (.tmp 1) rfl w.heap.size rfl 39 cs.toArray (0, 0) _ (fun w' hw' => row_below F5.out hw') Tryd.underlying39 rfl (by rw [LCS'.out]; kernel_rfl)) hHeld ?_
        go_frame
        refine held_take (i := 2) (v := (.pointer (some ⟨w.heap.size, 0, none⟩))) rfl (by kernel_rfl) (by kernel_rfl) (by kernel_rfl) (fun _ _ _ h => h) (Or.inl ⟨by rfl, fun w' _ => by kernel_rfl⟩) hHeld ?_
        go_frame
        refine held_take (i := 3) (v := (.pointer (some ⟨w.heap.size, 33, none⟩))) rfl (by kernel_rfl) (by kernel_rfl) (by kernel_rfl) (fun _ _ _ h => h) (Or.inl ⟨by rfl, fun w' _ => by kernel_rfl⟩) hHeld ?_
        go_frame
        refine held_take (i := 4) (v := (.agg (R2.map bV).toArray)) rfl (by kernel_rfl) (by kernel_rfl) (by kernel_rfl) (fun _ _ _ h => h) (Sha.yieldsIf_load_mid (by rfl) 24 (.tmp 41) rfl w.heap.size (33) rfl (R2.map bV) _ (fun w' hw' => RG.out w' hw') Tryd.underlying24 rfl (by rw [LX2.out]; kernel_rfl)) hHeld ?_
        go_frame
        refine wpAnyH_ready (rs := [1]) (by kernel_rfl) (by simp) (held_cons rfl (fun K hK => ?_) AllReadyH.nil)
        go_simp
        refine (RC.out _ (B5.out.trans (hHeld.mono B5.out.size))).mono ?_
        rintro e v1 ⟨rfl, bb⟩
        have hv1 := hHeld.trans (bb.mono hHeld.size)
        clear bb hHeld
        go_wp2_with fail
        refine hK.out _ _ hv1 (fun hHeld => ?_)
        clear hK K hv1
        refine held_take (i := 5) (v := (.bool (!decide (R = R2)))) rfl (by kernel_rfl) (by kernel_rfl) (by kernel_rfl) (fun _ _ _ h => h) (Or.inl ⟨by rfl, fun w' _ => by go_simp⟩) hHeld ?_
        go_frame
        refine held_take (i := 6) (v := (.bool (!decide (R = R2)))) rfl (by kernel_rfl) (by kernel_rfl) (by kernel_rfl) (fun _ _ _ h => h) (Or.inl ⟨by rfl, fun w' _ => by kernel_rfl⟩) hHeld ?_
        go_frame
        refine wpAnyH_done (by kernel_rfl) ?_ _
        clear nh
        have B6 := Lib.hid (B5.out.trans (hHeld.mono B5.out.size))
        clear hHeld
        by_cases hrr : R = R2
        · have e1 : (!decide (R = R2)) = false := by rw [decide_eq_true hrr]; rfl
          rw [e1]
          have HRR := Lib.hid hrr
          clear hrr e1
          go_wp2_with fail
          go_ret
          exact ⟨_, rfl, .inl (by rw [HW5.out, if_pos HRR.out]; exact ⟨rfl, rfl⟩), B6.out⟩
        · have e1 : (!decide (R = R2)) = true := by rw [decide_eq_false hrr]; rfl
          rw [e1]
          have HRR := Lib.hid hrr
          clear hrr e1
          have q7 := QR.out _ B6.out
          go_wp2_with fail
          go_ret
          exact ⟨_, rfl, .inl (by rw [HW5.out, if_neg HRR.out]; exact ⟨rfl, rfl⟩), B6.out⟩
  · obtain rfl : u = .iface 107 (.pointer (some ⟨g, 0, none⟩)) := hu
    have HG := Lib.hid hg
    have HRr := Lib.hid hr
    clear hg hr
    go_wp2_with fail
    go_ret
    exact ⟨_, rfl, .inr ⟨q, p, g, by rw [HW3.out, HRr.out, if_pos (by simp)], rfl, HG.out⟩, B4.out⟩
end Go.Proofs.YtdamhoagiooicaaDoor.Sha

/-
  What the checks say of a first transaction and of the block that each chain begins with: nothing. No conditions beyond those that each states.
-/
namespace Go.Proofs.YtdamhoagiooicaaDoor.Sha
open Go Go.RowKit
theorem firstT_base (h32 val : Nat) (lock ex : List UInt8) : baseB (firstT h32 val lock ex) = true := by
  show isNullIn (firstX h32 ex) = true
  unfold isNullIn firstX
  rw [zH_null]
  rfl
theorem firstT_bytes {h32 val : Nat} {lock ex : List UInt8} (hl : lock.length = 32) (he : ex.length ≤ 76) : (txB (firstT h32 val lock ex)).length = 95 + ex.length := by
  have e1 : ∀ n, n < 253 → lenN n = 1 := fun n hn => by unfold lenN; rw [if_pos hn]
  simp only [txB, firstT, insB, outsB, inB, outB, firstX, List.flatMap_cons, List.flatMap_nil, List.length_append, leB_length, putL_length, List.length_cons, List.length_nil, zH_length, hl]
  rw [e1 1 (by omega), e1 (4 + ex.length) (by omega)]
  omega
theorem firstT_check {h32 val : Nat} {lock ex : List UInt8} (h1 : h32 ≤ 4294967295) (hv : val ≤ 2100000000000000) (hl : lock.length = 32) (he : ex.length ≤ 76) : checkC (firstT h32 val lock ex) = 0 := by
  rw [chkC_rest (by simp [firstT])]
  have hk : (firstX h32 ex).key.length = 4 + ex.length := by simp [firstX, leB_length]
  have hs : sumIs [val] = true := by
    unfold sumIs
    rw [decide_eq_true_eq, most_eq]
    simp
    omega
  rw [if_neg (by rw [firstT_bytes hl he]; omega), if_neg (by show ¬ 80 < max 0 (firstX h32 ex).key.length; omega), if_neg (by show ¬ sumIs [val] = false; rw [hs]; simp), if_neg (by show ¬ (false || false) = true; simp)]
  have hr : rightB (firstT h32 val lock ex) = true := by
    unfold rightB
    rw [firstT_base, if_pos rfl]
    show (!((decide ((firstX h32 ex).key.length < 4)) || false)) = true
    rw [hk, decide_eq_false (by omega)]
    rfl
  rw [hr, if_pos rfl]
theorem start_len : (blkB startX).length = 176 := by
  rw [blkB_len startX_ok]
  show 80 + lenN 1 + (txB startT ++ []).length = 176
  rw [List.append_nil, show (txB startT).length = 95 from firstT_bytes (sha_length _) (by simp)]
  rfl
theorem one_each {l : List TTx} {t : TTx} (h : l = [t]) (hc : checkC t = 0) (hb : baseB t = true) : eachR l = (0, none) := by
  subst h
  refine eachR_fine (fun j u hu => ?_) (fun j u hu => ?_)
  · cases j with
    | zero => simp at hu; rw [← hu]; exact hc
    | succ j => simp at hu
  · cases j with
    | zero => simp at hu; rw [← hu, hb]; rfl
    | succ j => simp at hu
theorem start_root : blRoot startX = startX.head.root := rfl
theorem start_fine : blkR startX = (0, none) := by
  unfold blkR
  rw [if_neg (by decide), if_neg (by simp [startX]), if_neg (by rw [start_len]; omega), one_each (l := startX.txs) rfl (firstT_check (by omega) (by omega) (sha_length _) (by simp)) (firstT_base _ _ _ _), if_neg (by simp), if_neg (by show ¬ (false || false) = true; simp), if_pos start_root]
set_option maxHeartbeats 2000000 in
set_option maxRecDepth 100000 in
theorem first7 (E : Nat → Addr) (w : World) (hk : KTab w) (hE : ErB w E) : Calls Tryd.prog 7 #[] w fun e w' => e = .returned (.bool true) ∧ Below w.heap.size w w' := by
  have HK := Lib.hid hk
  have HE := Lib.hid hE
  clear hk hE
  go_enter Tryd.func7, Tryd.ntmps7
  go_wp2_with fail
  refine (blstart_any w HK.out).mono ?_
  rintro e w1 ⟨v1, rfl, ha1, hb1⟩
  have B1 := Lib.hid hb1
  have CK : Hid (Calls Tryd.prog 16 #[v1] w1 fun e w' => e = .returned .nilIface ∧ Below w1.heap.size w1 w') := by
    refine (blcheck_any E startX v1 w1 ha1 startX_small (HK.out.below hb1) (HE.out.below hb1)).mono ?_
    rintro e w' ⟨u, rfl, hf, hb⟩
    rw [start_fine] at hf
    rcases hf with ⟨_, rfl⟩ | ⟨q, p, g, h, _⟩
    · exact ⟨rfl, hb⟩
    · cases h
  clear hb1 ha1
  go_wp2_with fail
  refine CK.out.mono ?_
  rintro e w2 ⟨rfl, hb2⟩
  have B2 := Lib.hid (B1.out.trans (hb2.mono B1.out.size))
  clear hb2 CK
  go_wp2_with fail
  refine (blstart_any w2 (HK.out.below B2.out)).mono ?_
  rintro e w3 ⟨v3, rfl, ha3, hb3⟩
  have B3 := Lib.hid (B2.out.trans (hb3.mono B2.out.size))
  have IC : Hid (Calls Tryd.prog 27 #[v3] w3 fun e w' => ∃ sp cap, e = .returned (.slice sp 1 cap) ∧ Below w3.heap.size w3 w') := by
    refine (ids_any startX v3 w3 ha3 startX_small (HK.out.below B3.out)).mono ?_
    rintro e w' ⟨v', rfl, ho, hb⟩
    obtain ⟨sp, cap, rfl⟩ := ho.at.shape
    exact ⟨sp, cap, rfl, hb⟩
  clear hb3 ha3
  go_wp2_with fail
  refine IC.out.mono ?_
  rintro e w4 ⟨sp, cap, rfl, hb4⟩
  have B4 := Lib.hid (B3.out.trans (hb4.mono B3.out.size))
  clear hb4 IC
  go_wp2_with fail
  go_ret
  exact ⟨rfl, B4.out⟩
end Go.Proofs.YtdamhoagiooicaaDoor.Sha

/-
  The statements' own digests of transactions. New memory; nothing that was there turns. Condition: transactions of a few inputs and outputs that lie in memory.
-/
namespace Go.Proofs.YtdamhoagiooicaaDoor.Sha
open Go Go.RowKit
set_option maxHeartbeats 1000000 in
set_option maxRecDepth 100000 in
theorem rid_any (t : TTx) (v : Value) (w : World) (h1 : TxAt w v t) (hs : TxSmall t) :
    Calls Tryd.prog 82 #[v] w fun e w' => e = .returned (.agg ((sha (sha (txB t))).map bV).toArray) ∧ Below w.heap.size w w' := by
  have H1 := Lib.hid h1
  obtain ⟨_, iv, ov, rfl, h2, h3⟩ := h1
  have TL : Hid ((txB t).length ≤ 35184372088832) := hs.len
  have TB : Hid (∀ W, Below w.heap.size w W → Calls Tryd.prog 102 #[.agg (txL t iv ov).toArray] W fun e w' => ∃ v', e = .returned v' ∧ w'.ownsRow W.heap.size 5 1 v' (txB t).length ((txB t).map bV) ∧ Below W.heap.size W w') :=
    fun W hW => rtxb_any t _ W (H1.out.below hW) hs.ins hs.outs (Nat.le_trans hs.2.1 (by omega)) (Nat.le_trans hs.2.2.1 (by omega))
  have LC' : Hid ((txL t iv ov).toArray.size = 4) := rfl
  obtain ⟨ct, hct⟩ : ∃ ct, ct = txL t iv ov := ⟨_, rfl⟩
  rw [← hct] at TB LC' ⊢
  obtain ⟨dg, hdg⟩ : ∃ dg, dg = ((sha (sha (txB t))).map bV).toArray := ⟨_, rfl⟩
  have HOne : Hid (dg.all (·.oneCell') = true) := by show _ = _; rw [hdg]; exact bV_one _
  have HLen : Hid (dg.size = 32) := by show _ = _; rw [hdg]; simp [sha_length]
  have TW : Hid (∀ W sp n cap, SrcB W (.slice sp n cap) (txB t) → n ≤ 35184372088832 → Calls Tryd.prog 101 #[.slice sp n cap] W fun e w' => e = .returned (.agg dg) ∧ Below W.heap.size W w') := fun W sp n cap h1 h2 => by rw [hdg]; exact ref_twice (txB t) sp n cap W h1 h2
  rw [← hdg]
  clear hdg hct h2 h3
  go_enter Tryd.func82, Tryd.ntmps82
  go_upto_region 1 with fail
  have f1 := row_below (heap_alloc_new w (.cells ct.toArray 32 (0, 0))) ((Below.refl _ _).alloc (Nat.le_refl _) (.cells (List.replicate 32 (bV 0)).toArray 24))
  have f2 := heap_alloc_new (w.alloc (.cells ct.toArray 32 (0, 0))) (.cells (List.replicate 32 (bV 0)).toArray 24)
  have b1 := ((Below.refl w.heap.size w).alloc (Nat.le_refl _) (.cells ct.toArray 32 (0, 0))).alloc (by simp) (.cells (List.replicate 32 (bV 0)).toArray 24)
  rw [World.size_alloc] at f2
  generalize hw1 : World.alloc _ _ = w1
  have e1 : (w.alloc (.cells ct.toArray 32 (0, 0))).alloc (.cells (List.replicate 32 (bV 0)).toArray 24) = w1 := hw1
  rw [e1] at f1 f2 b1
  have F1 := Lib.hid f1
  have F2 := Lib.hid f2
  have B1 := Lib.hid b1
  clear f1 f2 b1 hw1 e1
  go_wp2_with ((with_reducible show wpList _ _ _ _ _ _); refine wpList_load_row rfl 32 (.tmp 1) rfl w.heap.size rfl 32 ct.toArray (0, 0) _ F1.out Tryd.underlying32 rfl (by rw [LC'.out]; kernel_rfl) ?_; go_frame)
  refine (TB.out w1 B1.out).mono ?_
  rintro e w2 ⟨v2, rfl, ho, hb2⟩
  have S2 := Lib.hid (src_own ho)
  obtain ⟨s2, n2, c2, rfl, hn2, _⟩ := (src_own ho).shape'
  have HN : Hid (n2 ≤ 35184372088832) := by show _ ≤ _; rw [hn2]; exact TL.out
  have B2 := Lib.hid (B1.out.trans (hb2.mono B1.out.size))
  have F2 := Lib.hid (row_below F2.out hb2)
  clear ho hb2 hn2
  go_wp2_with fail
  refine (TW.out w2 _ _ _ S2.out HN.out).mono ?_
  rintro e w3 ⟨rfl, hb3⟩
  have B3 := Lib.hid (B2.out.trans (hb3.mono B2.out.size))
  have F3 := Lib.hid (row_below F2.out hb3)
  clear hb3
  go_wp2_with ((with_reducible show wpList _ _ _ _ _ _); refine wpList_store_row rfl 24 (.tmp 2) (.tmp 5) rfl (w.heap.size + 1) dg rfl rfl 24 _ F3.out (by rw [HLen.out]; kernel_rfl) (by rw [HLen.out]; rfl) HOne.out ?_; go_frame)
  refine bodyPost_ret (results_cell_row rfl _ _ (w.heap.size + 1) 24 dg (0, 0) (.array 32 5) rfl (setRow_heap _ _ _ _ _ _ F3.out) Tryd.underlying24 rfl (by rw [HLen.out]; kernel_rfl)) rfl ⟨rfl, below_setRow B3.out (Nat.le_succ _) _⟩
def RiInv (n : Nat) (l : List TTx) (w1 : World) (vb vi : Value) (wr : World) : Prop :=
  ∃ (k : Nat) (vq : Value), vq = vb ∧ k ≤ n ∧ vi = .int .i64 k ∧ HsOwn w1.heap.size wr vq (idsL (l.take k)) ∧ Below w1.heap.size w1 wr
set_option maxHeartbeats 2000000 in
set_option maxRecDepth 100000 in
theorem rids_any (l : List TTx) (v : Value) (w : World) (h1 : TxsAt w v l) (hs : ∀ t ∈ l, TxSmall t) (hl : l.length ≤ 1000) :
    Calls Tryd.prog 64 #[v] w fun e w' => ∃ v', e = .returned v' ∧ HsOwn w.heap.size w' v' (idsL l) ∧ Below w.heap.size w w' := by
  obtain ⟨i0, hi, hz0, hz1, hz2⟩ := info_parts info_hash
  obtain ⟨sp, cap, rfl⟩ := h1.shape
  obtain ⟨n, hn⟩ : ∃ n, n = l.length := ⟨_, rfl⟩
  rw [← hn] at h1 ⊢
  have HT := Lib.hid h1
  have NN := Lib.hid hn
  have TS := Lib.hid hs
  have bn : n ≤ 1000 := by rw [hn]; exact hl
  clear h1 hn hs hl
  go_enter Tryd.func64, Tryd.ntmps64
  go_wp2_with fail
  go_loopw [3, 4] (fun vb vi wr => RiInv n l w vb vi wr) (fun _ i _ => n - (intOf i).toNat)
  case atStart => exact ⟨0, _, rfl, by omega, rfl, HsOwn.nil _ _, Below.refl _ _⟩
  case round =>
    obtain ⟨k, vb, rfl, hk, rfl, HO, B⟩ := hrel
    have HO := Lib.hid HO
    have B := Lib.hid B
    by_cases hlt : k < n
    · obtain ⟨b, o, hs1, _, hg⟩ := HT.out.get (by omega)
      obtain ⟨t, hgt⟩ : ∃ t, l[k]? = some t := ⟨_, List.getElem?_eq_getElem (by have := NN.out; omega)⟩
      obtain ⟨iv, ov, hr, hta⟩ := hg k t hgt
      have LC : Hid ((txL t iv ov).length = 4) := rfl
      obtain ⟨ct, hct⟩ : ∃ ct, ct = txL t iv ov := ⟨_, rfl⟩
      rw [← hct] at hr hta LC
      have R := Lib.hid (range_below hr B.out)
      obtain ⟨d, hd⟩ : ∃ d, d = sha (sha (txB t)) := ⟨_, rfl⟩
      have LD : Hid (d.length = 32) := by show _ = _; rw [hd]; exact sha_length _
      have LX : Hid ((d.map bV).length = 32) := by show _ = _; rw [List.length_map, LD.out]
      have IDC : Hid (Calls Tryd.prog 82 #[.agg ct.toArray] wr fun e w' => e = .returned (.agg (d.map bV).toArray) ∧ Below wr.heap.size wr w') := by
        rw [hd]
        exact rid_any t _ wr (hta.below B.out) (TS.out t (List.mem_of_getElem? hgt))
      have HTL : Hid ((idsL (l.take k)).length ≤ 1048576) := by show _ ≤ _; rw [idsL_length, List.length_take]; omega
      have GT := Lib.hid hgt
      have HD := Lib.hid hd
      have p0 : 0 ≤ (k : Int) := by omega
      have q0 : (k : Int) < (n : Int) := by omega
      subst hs1
      clear hg hgt hr hta hct hd
      go_wp2_with ((with_reducible show wpList _ _ _ _ _ _); (refine wpList_load_mid rfl 32 (.tmp 14) rfl b (o + k * 4) rfl ct _ R.out Tryd.underlying32 rfl (by rw [LC.out]; kernel_rfl) ?_; go_frame))
      refine IDC.out.mono ?_
      rintro e w6 ⟨rfl, hb6⟩
      have HO6 := Lib.hid (HO.out.keep hb6)
      have B6 := Lib.hid (B.out.trans (hb6.mono B.out.size))
      clear hb6 HO IDC
      go_wp2_with (first | ((with_reducible show wpList _ _ _ _ _ _); (refine wpList_slice_one rfl 68 24 (.tmp 16) rfl (d.map bV) rfl Tryd.underlying68 i0 _ hi hz0 (by rw [hz1, LX.out]) (by rw [LX.out]; omega) (by rw [LX.out]; omega) ?_; have nf := heap_alloc_new w6 (.cells ((d.map bV)).toArray 24 (0, 0)); have bb := (Below.refl w6.heap.size w6).alloc (Nat.le_refl _) (.cells ((d.map bV)).toArray 24 (0, 0)); obtain ⟨gn, hgn⟩ : ∃ g, g = w6.heap.size := ⟨_, rfl⟩; generalize hq : World.alloc _ _ = w7; have e2 : w6.alloc (.cells ((d.map bV)).toArray 24 (0, 0)) = w7 := hq; rw [e2] at nf bb; rw [← hgn] at nf ⊢; have NF := Lib.hid nf; have B7 := Lib.hid (B6.out.trans (bb.mono B6.out.size)); have HO7 := Lib.hid (HO6.out.keep bb); clear nf bb hq e2 hgn; go_frame)) | (at_builtin; refine wpList_append_own_at _ rfl _ _ 68 rfl w.heap.size 24 i0 (.agg (List.replicate 32 (bV 0)).toArray) 32 32 Tryd.underlying68 hi hz0 hz1 hz2 (by kernel_rfl) (by decide) vb _ (hsL (idsL (l.take k))) rfl HO7.out.1 ⟨gn, 0, none⟩ 1 1 (d.map bV) rfl (by rw [LX.out]) (hs_one NF.out) (bV_one' _) (by have := HTL.out; unfold maxLen; omega) (by have := HTL.out; omega) B7.out.size ?_; intro v8 w8 q1 q2 _ q4; have HO8 := Lib.hid (HsOwn.push (base := w.heap.size) HO7.out.2 LD.out q1); have B8 := Lib.hid (own_grown B7.out (Nat.le_refl _) B7.out.size HO7.out.1 q2); clear q1 q2 q4; go_frame))
      go_roundw
      case rel => exact ⟨k + 1, _, rfl, by omega, by go_num, by rw [idsL_snoc GT.out, ← HD.out]; exact HO8.out, B8.out⟩
      case measure => simp [intOf]; omega
    · have hkn : k = n := by omega
      have hge : ¬ (k : Int) < (n : Int) := by omega
      have HF : Hid (HsOwn w.heap.size wr vb (idsL l)) := by
        have h := HO.out
        rw [hkn, NN.out, List.take_length] at h
        exact h
      clear HO hkn
      go_wp2_with fail
      go_ret
      exact ⟨_, rfl, HF.out, B.out⟩
end Go.Proofs.YtdamhoagiooicaaDoor.Sha

/-
  The statements' own pair: the digest above two. Nothing that was there turns. No conditions.
-/
namespace Go.Proofs.YtdamhoagiooicaaDoor.Sha
open Go Go.RowKit
set_option maxHeartbeats 2000000 in
set_option maxRecDepth 100000 in
theorem pair_any (a b : List UInt8) (ha : a.length = 32) (hb : b.length = 32) (w : World) :
    Calls Tryd.prog 100 #[.agg (a.map bV).toArray, .agg (b.map bV).toArray] w fun e w' => e = .returned (.agg ((prH a b).map bV).toArray) ∧ Below w.heap.size w w' := by
  obtain ⟨i0, hi, hz0, hz1, hz2⟩ := info_parts info_u8
  have HA := Lib.hid ha
  have HB := Lib.hid hb
  have HOne := Lib.hid (bV_one (prH a b))
  have HLen : Hid ((((prH a b).map bV).toArray).size = 32) := by show _ = _; simp [prH_length]
  obtain ⟨dg, hdg⟩ : ∃ dg, dg = ((prH a b).map bV).toArray := ⟨_, rfl⟩
  rw [← hdg] at HOne HLen ⊢
  have HD := Lib.hid hdg
  clear hdg ha hb
  go_enter Tryd.func100, Tryd.ntmps100
  go_upto_region 1 with fail
  obtain ⟨b1, f1, f2, f3⟩ := boxes_two_zero w (a.map bV).toArray (b.map bV).toArray (List.replicate 32 (bV 0)).toArray 24
  generalize hw1 : World.alloc _ _ = w1
  have e1 : ((w.alloc (.cells (a.map bV).toArray 24 (0, 0))).alloc (.cells (b.map bV).toArray 24 (0, 0))).alloc (.cells (List.replicate 32 (bV 0)).toArray 24 (0, 0)) = w1 := hw1
  rw [e1] at b1 f1 f2 f3
  clear hw1 e1
  have F1 := Lib.hid f1
  have F2 := Lib.hid f2
  have F3 := Lib.hid f3
  have B1 := Lib.hid b1
  clear f1 f2 f3 b1
  refine wp_region_held_drew (S := (fun _ => True)) (by kernel_rfl) trivial (fun hHeld => ?_)
  have bb := Below.drew (Below.refl w1.heap.size w1)
  generalize hw2 : w1.drew = w2
  rw [hw2] at bb
  have F1 := Lib.hid (row_below F1.out bb)
  have F2 := Lib.hid (row_below F2.out bb)
  have F3 := Lib.hid (row_below F3.out bb)
  have B2 := Lib.hid (B1.out.trans (bb.mono B1.out.size))
  have B2G : Hid (w.heap.size + 2 < w2.heap.size) := by show _ < _; exact (Array.getElem?_eq_some_iff.1 F3.out).1
  clear hw2 bb B1
  refine held_take (i := 0) (v := (.slice (some ⟨w.heap.size, 0, none⟩) 32 32)) rfl (by kernel_rfl) (by kernel_rfl) (by kernel_rfl) (fun _ _ _ h => h) (Or.inl ⟨by rfl, fun w' _ => by kernel_rfl⟩) hHeld ?_
  go_frame
  refine held_take (i := 2) (v := (.slice (some ⟨w.heap.size + 1, 0, none⟩) 32 32)) rfl (by kernel_rfl) (by kernel_rfl) (by kernel_rfl) (fun _ _ _ h => h) (Or.inl ⟨by rfl, fun w' _ => by kernel_rfl⟩) hHeld ?_
  go_frame
  refine wpAnyH_ready (rs := [1]) (by kernel_rfl) (by simp) (held_cons rfl (fun K hK => ?_) AllReadyH.nil)
  go_simp
  refine (bytes_copy_any a _ 32 32 w2 (src_block HA.out F1.out) (by omega)).mono ?_
  rintro e w3 ⟨rfl, ho, bb⟩
  have HO := Lib.hid ho
  have F2 := Lib.hid (row_below F2.out bb)
  have F3 := Lib.hid (row_below F3.out bb)
  have B3 := Lib.hid (B2.out.trans (bb.mono B2.out.size))
  have S23 := Lib.hid bb.size
  have g2lt : w.heap.size + 2 < w2.heap.size := by have := B2G.out; omega
  clear ho bb F1
  go_wp2_with fail
  refine hK.out _ _ trivial (fun hHeld => ?_)
  clear hK K
  refine wpAnyH_ready (rs := [3]) (by kernel_rfl) (by simp) (held_cons rfl (fun K hK => ?_) AllReadyH.nil)
  rw [if_pos (by rfl)]
  refine wp_append_row w3 (.tmp 6) (.tmp 7) 25 rfl w2.heap.size 5 i0 (.int .u8 0) 1 1 Tryd.underlying25 hi hz0 hz1 hz2 (by kernel_rfl) (by decide) (.slice (some ⟨w2.heap.size, 0, none⟩) 32 32) 32 (a.map bV) rfl HO.out ⟨w.heap.size + 1, 0, none⟩ 32 32 (b.map bV) rfl (by rw [List.length_map, HB.out]) (hs_one F2.out) (bV_one' _) (by unfold maxLen; omega) (by omega) S23.out ?_
  intro v4 w4 q1 q2 q3
  obtain ⟨g4, c4, hv4, hg4, hc4⟩ := own_shape q1 (by omega)
  subst hv4
  have q1' : w4.ownsRow w2.heap.size 5 1 (.slice (some ⟨g4, 0, none⟩) 64 c4) 64 ((a ++ b).map bV) := by rw [List.map_append]; exact q1
  have S4 := Lib.hid (src_own q1')
  have q2' : w3.grownBy w4 (some w2.heap.size) := q2
  have F3 := Lib.hid (row_far F3.out q2' (fun e => by have := Option.some.inj e; omega))
  have B4 := Lib.hid (B3.out.grown q2' B3.out.size (fun k hk => by cases hk; exact B2.out.size))
  clear q1 q2 q3 q1' q2' hg4 hc4 B3 F2 HO
  go_frame
  refine hK.out _ _ trivial (fun hHeld => ?_)
  clear hK K
  refine wpAnyH_ready (rs := [4]) (by kernel_rfl) (by simp) (held_cons rfl (fun K hK => ?_) AllReadyH.nil)
  go_simp
  have TW := ref_twice (a ++ b) (some ⟨g4, 0, none⟩) 64 c4 w4 S4.out (by omega)
  rw [show sha (sha (a ++ b)) = prH a b from rfl, ← HD.out] at TW
  refine TW.mono ?_
  clear TW
  rintro e w5 ⟨rfl, bb⟩
  have F3 := Lib.hid (row_below F3.out bb)
  have B5 := Lib.hid (B4.out.trans (bb.mono B4.out.size))
  clear bb B4 S4
  go_wp2_with fail
  refine hK.out _ _ trivial (fun hHeld => ?_)
  clear hK K
  refine wpAnyH_ready (rs := [5]) (by kernel_rfl) (by simp) (held_cons rfl (fun K hK => ?_) AllReadyH.nil)
  rw [if_pos (by rfl)]
  refine wp_store_part 24 (.tmp 4) (.tmp 9) rfl (w.heap.size + 2) 0 [] (List.replicate 32 (bV 0)) [] dg.toList 24 (.agg dg) rfl rfl (by simp [Value.cells]) rfl (by simp [HLen.out]) (by simpa using F3.out) (by rw [Array.length_toList, HLen.out]; kernel_rfl) (one_list HOne.out) ?_
  intro w6 q1 q2
  have f6 : w6.heap[w.heap.size + 2]? = some (.cells dg 24 (0, 0)) := by simpa using q1
  have F6 := Lib.hid f6
  have B6 := Lib.hid (B5.out.grown q2 B5.out.size (fun k hk => by cases hk; omega))
  clear q1 q2 f6
  go_frame
  refine hK.out _ _ trivial (fun hHeld => ?_)
  clear hK K
  refine wpAnyH_done (by kernel_rfl) ?_ _
  clear hHeld
  go_wp2_with fail
  refine bodyPost_ret (results_cell_row rfl _ _ (w.heap.size + 2) 24 dg (0, 0) (.array 32 5) rfl F6.out Tryd.underlying24 rfl (by rw [HLen.out]; kernel_rfl)) rfl ⟨rfl, B6.out⟩
end Go.Proofs.YtdamhoagiooicaaDoor.Sha
