/-
  Of several inputs the one that waits longest counts, by blocks and by time apart; one that does not wait changes nothing. No conditions.
-/
import Derived.Test.YtmdbhpkfldnodaaMh03
import Derived.Test.YtmdbhpkfldnodaaMh01
import Derived.Test.YtmdbhpkfldnodaaMh02
namespace Go.Proofs.Ytmdbhpkfldnodaa.Sha
open Go Go.RowKit
def SqmI (n : Nat) (w0 : World) (base g : Nat) (vh vp vhi vla vi : Value) (wr : World) : Prop :=
  ∃ (i : Nat) (S : List Nat) (H : List Int) (Q : List Nat) (iv hv pv : Value) (hi la : Int), hv = vh ∧ pv = vp ∧ vhi = .int .i64 hi ∧ vla = .int .i64 la ∧ vi = .int .i64 (i : Int) ∧ i ≤ n ∧ S.length = i ∧ H.length = i ∧ Q.length = i ∧ smF S H Q = (hi, la) ∧ (∀ s ∈ S, s ≤ 4294967295) ∧ (∀ x ∈ H, 0 ≤ x ∧ x ≤ 100000) ∧ (∀ x ∈ Q, x ≤ 16777215) ∧ -1 ≤ hi ∧ hi ≤ 200000 ∧ -1 ≤ la ∧ la ≤ 60000000 ∧ SmSt w0 base g 2 S H Q iv hv pv wr
theorem wp_slice_int {P : Program} {op : Oper} {a : Act} {w : World} {K : Act → World → Prop} {Q : Exit → Act → World → Prop} (t : TypeId) (x : Operand) {e : TypeId} (ho : op.op = .buildSlice t 1 #[(0, x)]) (y : Int) (hx : a.eval x = .int .i64 y)
    (hu : P.underlying t = some (.slice e)) (i : TypeInfo) (z : Value) (hi : P.info? e = some i) (hz : i.zero = some z) (hs : i.size = 1)
    (h : K (a.put op.dst (.slice (some ⟨w.heap.size, 0, none⟩) 1 1)) (w.alloc (.cells #[.int .i64 y] e))) : op.wp P a w K Q := by
  refine wp_buildSlice t e 1 _ ho [.int .i64 y].toArray i z hu hi hz (by rw [hs]; omega) (by rw [hs]; omega) ?_ h
  have e1 : (Array.map (fun (q : Nat × Operand) => (q.1, a.eval q.2)) #[(0, x)]).toList = [(0, .int .i64 y)] := by simp [hx]
  rw [show (Array.map (fun (i, x) => (i, a.eval x)) #[(0, x)]).toList = [(0, .int .i64 y)] from e1, ← Array.toArray_toList (xs := Array.map _ _)]
  rw [fill_part _ 0 0 (.int .i64 y) [.int .i64 y] _ _ rfl (by rw [hs]; rfl) (by simp [hs])]
  simp [hs, Instr.fill]
theorem mem_snoc {α : Type} {l : List α} {y : α} {p : α → Prop} (h : ∀ x ∈ l, p x) (hy : p y) : ∀ x ∈ l ++ [y], p x := fun x hx => by
  rcases List.mem_append.1 hx with h1 | h1
  · exact h x h1
  · obtain rfl := List.mem_singleton.1 h1
    exact hy
theorem ints_cell {w W : World} {v : Value} {l : List Int} {i : Nat} {x : Int} (h : RwAt 1 w v (l.map intC)) (hb : Below w.heap.size w W) (hx : l[i]? = some x) : ∃ b o cap, v = .slice (some ⟨b, o, none⟩) l.length cap ∧ W.cell? ⟨b, o + i, none⟩ = some (.int .i64 x) := by
  obtain ⟨s, c, e⟩ := h.shape
  subst e
  have h2 := h.below hb
  rw [List.length_map] at h2 ⊢
  obtain ⟨b, o, e, hg⟩ := h2.get (by have := (List.getElem?_eq_some_iff.1 hx).1; omega)
  subst e
  exact ⟨b, o, c, rfl, int_cell (hg i (intC x) (by rw [List.getElem?_map, hx]; rfl))⟩
set_option maxHeartbeats 4000000 in
set_option maxRecDepth 100000 in
theorem seqmost_main (la lb : List Int) (lc : List Nat) (va vb vc : Value) (w : World) (ha : RwAt 1 w va (la.map intC)) (hb : RwAt 1 w vb (lb.map intC)) (hc : RwAt 1 w vc (lc.map u32C)) (ba : ∀ x ∈ la, -9223372036854775808 ≤ x ∧ x ≤ 9223372036854775807) (bb : ∀ x ∈ lb, -9223372036854775808 ≤ x ∧ x ≤ 9223372036854775807) (bc : ∀ x ∈ lc, x ≤ 4294967295) (na0 : la.length ≤ 9223372036854775807) (nb0 : lb.length ≤ 9223372036854775807) (nc0 : lc.length ≤ 9223372036854775807) :
    Calls Try.prog 4 #[va, vb, vc] w fun e w' => e = .returned (.bool true) ∧ Below w.heap.size w w' := by
  obtain ⟨i0, hi, hz0, hz1, hz2⟩ := info_parts info_in
  obtain ⟨j0, hj, hy0, hy1, hy2⟩ := info_parts info_int
  obtain ⟨k0, hk, hu0, hu1, hu2⟩ := info_parts info_u32
  have HA := Lib.hid ha
  have HB := Lib.hid hb
  have HC := Lib.hid hc
  have BA := Lib.hid ba
  have BB := Lib.hid bb
  have BC := Lib.hid bc
  obtain ⟨sa, ca, rfl⟩ := ha.shape
  obtain ⟨sb, cb, rfl⟩ := hb.shape
  obtain ⟨sc, cc, rfl⟩ := hc.shape
  rw [List.length_map] at HA HB HC ⊢
  rw [List.length_map, List.length_map]
  obtain ⟨na, hna⟩ : ∃ na, na = la.length := ⟨_, rfl⟩
  obtain ⟨nb, hnb⟩ : ∃ nb, nb = lb.length := ⟨_, rfl⟩
  obtain ⟨nc, hnc⟩ : ∃ nc, nc = lc.length := ⟨_, rfl⟩
  rw [← hna] at HA na0 ⊢
  rw [← hnb] at HB nb0 ⊢
  rw [← hnc] at HC nc0 ⊢
  have NA := Lib.hid hna
  have NB := Lib.hid hnb
  have NC := Lib.hid hnc
  clear hna hnb hnc ha hb hc ba bb bc
  go_enter Try.func4, Try.ntmps4
  go_wp2_with fail
  refine (sqfirst_any w).mono ?_
  rintro e w1 ⟨rfl, hb⟩
  have B1 := Lib.hid hb
  clear hb
  go_upto_region 5 with fail
  obtain ⟨n, hn⟩ : ∃ n : Nat, min (na : Int) (min (nb : Int) (nc : Int)) = (n : Int) := ⟨min na (min nb nc), by omega⟩
  first | rw [hn] | (simp only [← hn, Int.min_def])
  have hna : n ≤ na := by omega
  have hnb : n ≤ nb := by omega
  have hnc : n ≤ nc := by omega
  clear hn
  by_cases hbig : (10 : Int) < (n : Int)
  · go_wp2_with fail
    go_ret
    exact ⟨rfl, B1.out⟩
  have NL : n ≤ 10 := by omega
  have HNL := Lib.hid NL
  go_upto_region 8 with ((with_reducible show wpList _ _ _ _ _ _); first | (refine wpList_buildTo rfl 35 _ rfl _ rfl (smC 2 (.slice none 0 0)).toArray (by kernel_rfl) ?_; go_frame) | (refine wpList_store_row rfl 35 (.tmp 9) (.tmp 42) rfl w1.heap.size (smC 2 (.slice none 0 0)).toArray rfl rfl 35 _ (heap_alloc_new _ _) (by kernel_rfl) rfl (by kernel_rfl) ?_; go_frame))
  obtain ⟨_, f2, f3, f4⟩ := fill_setup (Below.refl w1.heap.size w1) [nV 0, .slice none 0 0, .slice none 0 0, nV 0].toArray (smC 2 (.slice none 0 0)).toArray 35
  generalize hw2 : World.setRow _ _ _ = w2
  have e2 : World.setRow (w1.alloc (.cells [nV 0, .slice none 0 0, .slice none 0 0, nV 0].toArray 35)) w1.heap.size (smC 2 (.slice none 0 0)).toArray = w2 := hw2
  rw [e2] at f2 f3 f4
  obtain ⟨g9, hg9⟩ : ∃ g9, g9 = w1.heap.size := ⟨_, rfl⟩
  obtain ⟨base, hbase⟩ : ∃ base, base = w2.heap.size := ⟨_, rfl⟩
  rw [← hg9] at f2 ⊢
  have ST0 : Hid (SmSt w base g9 2 [] [] [] (.slice none 0 0) (.slice none 0 0) (.slice none 0 0) w2) := ⟨f2, RwOwn.nil _ _ _ _, RwOwn.nil _ _ _ _, RwOwn.nil _ _ _ _, B1.out.trans (f4.mono B1.out.size), by have := B1.out.size; omega, by omega, by omega⟩
  clear hw2 e2 f2 f3 f4 hg9 hbase
  go_wp2_with fail
  go_loopw [10, 11, 12, 13, 14] (fun vh vp vhi vla vi wr => SqmI n w base g9 vh vp vhi vla vi wr) (fun _ _ _ _ vi _ => n - (intOf vi).toNat)
  case atStart => exact ⟨0, [], [], [], _, _, _, -1, -1, rfl, rfl, rfl, rfl, rfl, Nat.zero_le _, rfl, rfl, rfl, rfl, (fun x hx => by cases hx), (fun x hx => by cases hx), (fun x hx => by cases hx), by omega, by omega, by omega, by omega, ST0.out⟩
  case round =>
    clear ST0
    obtain ⟨i, S, H, Q, iv, hv, pv, high, late, rfl, rfl, rfl, rfl, rfl, hin, hS, hH, hQ, hF, s1, s2, s3, b1, b2, b3, b4, hst⟩ := hrel
    have ST := Lib.hid hst
    have FF := Lib.hid hF
    have S1 := Lib.hid s1
    have S2 := Lib.hid s2
    have S3 := Lib.hid s3
    have LS := Lib.hid hS
    have LH := Lib.hid hH
    have LQ := Lib.hid hQ
    have HB1 := Lib.hid b1
    have HB2 := Lib.hid b2
    have HB3 := Lib.hid b3
    have HB4 := Lib.hid b4
    clear hst hF s1 s2 s3 hS hH hQ b1 b2 b3 b4
    by_cases hlt : i < n
    · obtain ⟨a, hax⟩ : ∃ a, la[i]? = some a := ⟨_, List.getElem?_eq_getElem (by rw [← NA.out]; omega)⟩
      obtain ⟨b, hbx⟩ : ∃ b, lb[i]? = some b := ⟨_, List.getElem?_eq_getElem (by rw [← NB.out]; omega)⟩
      obtain ⟨c, hcx⟩ : ∃ c, lc[i]? = some c := ⟨_, List.getElem?_eq_getElem (by rw [← NC.out]; omega)⟩
      have BB0 := Lib.hid ST.out.below
      obtain ⟨bA, oA, rfl, hgA⟩ := (HA.out.below BB0.out).get (by omega)
      have ca1 := int_cell (hgA i (intC a) (by rw [List.getElem?_map, hax]; rfl))
      obtain ⟨bB, oB, rfl, hgB⟩ := (HB.out.below BB0.out).get (by omega)
      have cb1 := int_cell (hgB i (intC b) (by rw [List.getElem?_map, hbx]; rfl))
      obtain ⟨bC, oC, rfl, hgC⟩ := (HC.out.below BB0.out).get (by omega)
      have cc1 := u32_cell (hgC i (u32C c) (by rw [List.getElem?_map, hcx]; rfl))
      have ab := BA.out a (List.mem_of_getElem? hax)
      have bb := BB.out b (List.mem_of_getElem? hbx)
      have cb := BC.out c (List.mem_of_getElem? hcx)
      obtain ⟨k, hk1, hk2⟩ := numb_nat a 65536 (by omega)
      obtain ⟨x, hx1, hx2⟩ := numb_nat b 100000 (by omega)
      obtain ⟨m, hm1, hm2⟩ := numb_nat a 3 (by omega)
      have HNk : Hid (∀ W, Calls Try.prog 6 #[.int .i64 a, .int .i64 65536] W fun e w' => e = .returned (.int .i64 (k : Int)) ∧ W = w') := fun W => by rw [← show numb a 65536 = (k : Int) from hk1]; exact numb_any a 65536 (by omega) (by omega) ab W
      have HNx : Hid (∀ W, Calls Try.prog 6 #[.int .i64 b, .int .i64 100000] W fun e w' => e = .returned (.int .i64 (x : Int)) ∧ W = w') := fun W => by rw [← show numb b 100000 = (x : Int) from hx1]; exact numb_any b 100000 (by omega) (by omega) bb W
      have HNm : Hid (∀ W, Calls Try.prog 6 #[.int .i64 a, .int .i64 3] W fun e w' => e = .returned (.int .i64 (m : Int)) ∧ W = w') := fun W => by rw [← show numb a 3 = (m : Int) from hm1]; exact numb_any a 3 (by omega) (by omega) ab W
      obtain ⟨pa, hpa⟩ : ∃ pa, pa = c &&& 16777215 := ⟨_, rfl⟩
      have bm : bits .and .u32 (c : Int) 16777215 = (pa : Int) := by rw [hpa]; exact bits_nat (b := 16777215) cb (by omega)
      have pb : pa ≤ 16777215 := by rw [hpa]; exact Nat.and_le_right
      have KL := Lib.hid hk2
      have XL := Lib.hid hx2
      have PB := Lib.hid pb
      have p0 : 0 ≤ (i : Int) := by omega
      have p1 : (i : Int) < (n : Int) := by omega
      have pA : (i : Int) < (na : Int) := by omega
      have pB : (i : Int) < (nb : Int) := by omega
      have pC : (i : Int) < (nc : Int) := by omega
      have wk : IntKind.u32.wrap (k : Int) = (k : Int) := by rw [IntKind.wrap_u32]; omega
      have Dins : Hid ((S.map smX).length ≤ 10) := by show _ ≤ _; rw [List.length_map, LS.out]; omega
      have Dhs : Hid ((H.map intC).length ≤ 10) := by show _ ≤ _; rw [List.length_map, LH.out]; omega
      have Dps : Hid ((Q.map u32C).length ≤ 10) := by show _ ≤ _; rw [List.length_map, LQ.out]; omega
      clear hax hbx hcx hgA hgB hgC hk1 hx1 hm1 hpa ab bb cb
      go_wp2_with fail
      refine (HNk.out _).mono ?_
      rintro e wq ⟨rfl, rfl⟩
      go_wp2_with fail
      refine (HNx.out _).mono ?_
      rintro e wq ⟨rfl, rfl⟩
      go_upto_region 19 with ((with_reducible show wpList _ _ _ _ _ _); first | (refine wpList_buildTo rfl 31 _ rfl _ rfl (smX k).toArray (by kernel_rfl) ?_; go_frame) | (refine wpList_store_row rfl 31 (.tmp 18) (.tmp 65) rfl wr.heap.size (smX k).toArray rfl rfl 31 _ (heap_alloc_new _ _) (by kernel_rfl) rfl (smX_all k) ?_; go_frame))
      obtain ⟨_, f2, f3, f4⟩ := fill_setup (Below.refl wr.heap.size wr) (List.replicate 32 (bV 0) ++ [nV 0, .slice none 0 0, nV 0]).toArray (smX k).toArray 31
      generalize hw5 : World.setRow _ _ _ = w5
      have e5 : World.setRow (wr.alloc (.cells (List.replicate 32 (bV 0) ++ [nV 0, .slice none 0 0, nV 0]).toArray 31)) wr.heap.size (smX k).toArray = w5 := hw5
      rw [e5] at f2 f3 f4
      obtain ⟨g5, hg5⟩ : ∃ g5, g5 = wr.heap.size := ⟨_, rfl⟩
      rw [← hg5] at f2 ⊢
      have F5 : Hid (w5.heap[g5]? = some (.cells (sqA ++ [nV k] ++ []).toArray 31 (0, 0))) := by show _ = _; rw [List.append_nil]; exact f2
      have N5 : Hid (wr.heap.size ≤ g5) := by show _ ≤ _; omega
      have BW := Lib.hid f4
      have ca5 := cell_below ca1 f4
      clear hw5 e5 f2 f3 f4 hg5 ca1 cb1 cc1 bm pb
      go_wp2_with fail
      refine (HNm.out _).mono ?_
      rintro e wq ⟨rfl, rfl⟩
      clear ca5 HNk HNx HNm
      by_cases hm0 : m = 0
      · have m0 : ((m : Int) == 0) = true := by simp; omega
        have m1 : IntKind.i64.wrap ((x : Int) + (k : Int)) = (x : Int) + (k : Int) := IntWalk.i64_in _ (by omega)
        have m2 : IntKind.i64.wrap ((x : Int) + (k : Int) - 1) = (x : Int) + (k : Int) - 1 := IntWalk.i64_in _ (by omega)
        have F6 : Hid (w5.heap[g5]? = some (.cells (smX k).toArray 31 (0, 0))) := by have h := F5.out; rw [List.append_nil] at h; exact h
        have ST6 := Lib.hid (ST.out.keep BW.out)
        obtain ⟨w6, hw6⟩ : ∃ w6, w6 = w5 := ⟨_, rfl⟩
        rw [← hw6] at F6 ST6 ⊢
        clear hw6 hm0 F5 BW
        by_cases hcm : high < (x : Int) + (k : Int) - 1
        · have c2 : ¬ (x : Int) + (k : Int) - 1 < high := by omega
          have FN : Hid (needStep (high, late) (k, (x : Int), pa) = ((x : Int) + (k : Int) - 1, late)) := by show _ = _; rw [smS_h KL.out high late (by have := XL.out; omega) pa, Int.max_eq_right (by omega)]
          go_upto_region 26 with fail
          have c61 : w6.cell? ⟨g9, 1, none⟩ = some iv := by rw [cell_of_row _ _ _ _ _ _ ST6.out.tx]; rfl
          go_upto_region 27 with (first | ((with_reducible show wpList _ _ _ _ _ _); first | (refine wpList_load_row rfl 31 (.tmp 18) rfl g5 rfl 31 (smX k).toArray (0, 0) _ F6.out Try.underlying31 rfl (by kernel_rfl) ?_; go_frame) | (refine wpList_slice_one rfl 32 31 (.tmp 99) rfl (smX k) rfl Try.underlying32 i0 _ hi hz0 (by rw [hz1]; rfl) (by show 0 < 35; omega) (by show 35 ≤ _; omega) ?_; have nf := heap_alloc_new w6 (.cells (smX k).toArray 31 (0, 0)); have bb := (Below.refl w6.heap.size w6).alloc (Nat.le_refl _) (.cells (smX k).toArray 31 (0, 0)); obtain ⟨gN, hgN⟩ : ∃ g, g = w6.heap.size := ⟨_, rfl⟩; generalize hq : World.alloc _ _ = w7; have e7 : w6.alloc (.cells (smX k).toArray 31 (0, 0)) = w7 := hq; rw [e7] at nf bb; rw [← hgN] at nf ⊢; have NF := Lib.hid nf; have ST7 := Lib.hid (ST6.out.keep bb); clear nf bb hq e7 hgN; go_frame) | (refine wpList_store_part rfl 32 (.tmp 102) (.tmp 101) rfl g9 1 [nV 2] [iv] [.slice none 0 0, nV 0] [iv2] 35 iv2 rfl rfl (cells_one (own_one IO.out.1)) rfl rfl TX8.out (by kernel_rfl) (one_mem (own_one IO.out.1)) ?_; intro w9 q1 q2; have ST9 := Lib.hid (ST7.out.pushI IO.out Q8.out q1 q2); clear q1 q2; go_frame)) | (at_builtin; refine wpList_append_own_at _ rfl _ _ 32 rfl base 31 i0 (.agg (List.replicate 32 (bV 0) ++ [nV 0, .slice none 0 0, nV 0]).toArray) 35 72 Try.underlying32 hi hz0 hz1 hz2 (by kernel_rfl) (by decide) iv _ (S.map smX).flatten rfl ST7.out.ins.1 ⟨gN, 0, none⟩ 1 1 (smX k) rfl rfl (fun j u hj => by rw [Addr.add_mid]; exact range_of_box NF.out j u hj) (smX_one k) (by have := Dins.out; unfold maxLen; omega) (by have := Dins.out; omega) ST7.out.sz ?_; intro iv2 w8 q1 q2 _ q4; have IO : Hid (RwOwn 35 31 base w8 iv2 (S.map smX ++ [smX k])) := RwOwn.push ST7.out.ins.2 (smX_length k) q1; have TX8 : Hid (w8.heap[g9]? = some (.cells ([nV 2] ++ [iv] ++ [.slice none 0 0, nV 0]).toArray 35 (0, 0))) := ST7.out.txrow ST7.out.ins q2; have Q8 := Lib.hid q2; clear q1 q2 q4; go_frame))
          clear c61
          go_upto_region 28 with (at_builtin; refine wpList_append_own_at _ rfl _ _ 37 rfl base 3 j0 (.int .i64 0) 1 8 Try.underlying37 hj hy0 hy1 hy2 rfl (by decide) hv _ (H.map intC).flatten rfl (ST9.out.hs.1.alloc _) ⟨w9.heap.size, 0, none⟩ 1 1 [.int .i64 (x : Int)] rfl rfl (cell_one_new _ _ _) (fun u hu => by obtain rfl := List.mem_singleton.1 hu; rfl) (by have := Dhs.out; unfold maxLen; omega) (by have := Dhs.out; omega) (by have := ST9.out.sz; simp; omega) ?_; intro hv2 wA q1 q2 _ q4; have al := (Below.refl w9.heap.size w9).alloc (Nat.le_refl _) (.cells #[.int .i64 (x : Int)] 3 (0, 0)); have STA := Lib.hid ((ST9.out.keep al).pushH (x := (x : Int)) (RwOwn.push ST9.out.hs.2 rfl q1) q2); clear q1 q2 q4 al; go_frame)
          go_wp2_with (at_builtin; refine wpList_append_own_at _ rfl _ _ 38 rfl base 22 k0 (.int .u32 0) 1 4 Try.underlying38 hk hu0 hu1 hu2 rfl (by decide) pv _ (Q.map u32C).flatten rfl (STA.out.ps.1.alloc _) ⟨wA.heap.size, 0, none⟩ 1 1 [.int .u32 (pa : Int)] rfl rfl (cell_one_new _ _ _) (fun u hu => by obtain rfl := List.mem_singleton.1 hu; rfl) (by have := Dps.out; unfold maxLen; omega) (by have := Dps.out; omega) (by have := STA.out.sz; simp; omega) ?_; intro pv2 wB q1 q2 _ q4; have al := (Below.refl wA.heap.size wA).alloc (Nat.le_refl _) (.cells #[.int .u32 (pa : Int)] 22 (0, 0)); have STB := Lib.hid ((STA.out.keep al).pushP (x := pa) (RwOwn.push STA.out.ps.2 rfl q1) q2); clear q1 q2 q4 al; go_frame)
          go_roundw
          case rel =>
            refine ⟨i + 1, S ++ [k], H ++ [(x : Int)], Q ++ [pa], iv2, hv2, pv2, (x : Int) + (k : Int) - 1, late, rfl, rfl, ?_, ?_, by go_num, by omega, by rw [List.length_append, LS.out]; rfl, by rw [List.length_append, LH.out]; rfl, by rw [List.length_append, LQ.out]; rfl, ?_, mem_snoc S1.out (by have := KL.out; omega), mem_snoc S2.out ⟨by omega, by have := XL.out; omega⟩, mem_snoc S3.out PB.out, ?_, ?_, ?_, ?_, STB.out⟩
            · first | rfl | exact congrArg (Value.int .i64) (by omega)
            · first | rfl | exact congrArg (Value.int .i64) (by omega)
            · rw [smF_snoc (by rw [LS.out, LH.out]) (by rw [LH.out, LQ.out]), FF.out]
              exact FN.out
            · have := HB1.out; omega
            · have := HB2.out; have := KL.out; have := XL.out; omega
            · have := HB3.out; omega
            · have := HB4.out; have := KL.out; have := PB.out; omega
          case measure => simp [intOf] <;> omega
        · have c2 : (x : Int) + (k : Int) - 1 ≤ high := by omega
          have FN : Hid (needStep (high, late) (k, (x : Int), pa) = (high, late)) := by show _ = _; rw [smS_h KL.out high late (by have := XL.out; omega) pa, Int.max_eq_left (by omega)]
          go_upto_region 26 with fail
          have c61 : w6.cell? ⟨g9, 1, none⟩ = some iv := by rw [cell_of_row _ _ _ _ _ _ ST6.out.tx]; rfl
          go_upto_region 27 with (first | ((with_reducible show wpList _ _ _ _ _ _); first | (refine wpList_load_row rfl 31 (.tmp 18) rfl g5 rfl 31 (smX k).toArray (0, 0) _ F6.out Try.underlying31 rfl (by kernel_rfl) ?_; go_frame) | (refine wpList_slice_one rfl 32 31 (.tmp 99) rfl (smX k) rfl Try.underlying32 i0 _ hi hz0 (by rw [hz1]; rfl) (by show 0 < 35; omega) (by show 35 ≤ _; omega) ?_; have nf := heap_alloc_new w6 (.cells (smX k).toArray 31 (0, 0)); have bb := (Below.refl w6.heap.size w6).alloc (Nat.le_refl _) (.cells (smX k).toArray 31 (0, 0)); obtain ⟨gN, hgN⟩ : ∃ g, g = w6.heap.size := ⟨_, rfl⟩; generalize hq : World.alloc _ _ = w7; have e7 : w6.alloc (.cells (smX k).toArray 31 (0, 0)) = w7 := hq; rw [e7] at nf bb; rw [← hgN] at nf ⊢; have NF := Lib.hid nf; have ST7 := Lib.hid (ST6.out.keep bb); clear nf bb hq e7 hgN; go_frame) | (refine wpList_store_part rfl 32 (.tmp 102) (.tmp 101) rfl g9 1 [nV 2] [iv] [.slice none 0 0, nV 0] [iv2] 35 iv2 rfl rfl (cells_one (own_one IO.out.1)) rfl rfl TX8.out (by kernel_rfl) (one_mem (own_one IO.out.1)) ?_; intro w9 q1 q2; have ST9 := Lib.hid (ST7.out.pushI IO.out Q8.out q1 q2); clear q1 q2; go_frame)) | (at_builtin; refine wpList_append_own_at _ rfl _ _ 32 rfl base 31 i0 (.agg (List.replicate 32 (bV 0) ++ [nV 0, .slice none 0 0, nV 0]).toArray) 35 72 Try.underlying32 hi hz0 hz1 hz2 (by kernel_rfl) (by decide) iv _ (S.map smX).flatten rfl ST7.out.ins.1 ⟨gN, 0, none⟩ 1 1 (smX k) rfl rfl (fun j u hj => by rw [Addr.add_mid]; exact range_of_box NF.out j u hj) (smX_one k) (by have := Dins.out; unfold maxLen; omega) (by have := Dins.out; omega) ST7.out.sz ?_; intro iv2 w8 q1 q2 _ q4; have IO : Hid (RwOwn 35 31 base w8 iv2 (S.map smX ++ [smX k])) := RwOwn.push ST7.out.ins.2 (smX_length k) q1; have TX8 : Hid (w8.heap[g9]? = some (.cells ([nV 2] ++ [iv] ++ [.slice none 0 0, nV 0]).toArray 35 (0, 0))) := ST7.out.txrow ST7.out.ins q2; have Q8 := Lib.hid q2; clear q1 q2 q4; go_frame))
          clear c61
          go_upto_region 28 with (at_builtin; refine wpList_append_own_at _ rfl _ _ 37 rfl base 3 j0 (.int .i64 0) 1 8 Try.underlying37 hj hy0 hy1 hy2 rfl (by decide) hv _ (H.map intC).flatten rfl (ST9.out.hs.1.alloc _) ⟨w9.heap.size, 0, none⟩ 1 1 [.int .i64 (x : Int)] rfl rfl (cell_one_new _ _ _) (fun u hu => by obtain rfl := List.mem_singleton.1 hu; rfl) (by have := Dhs.out; unfold maxLen; omega) (by have := Dhs.out; omega) (by have := ST9.out.sz; simp; omega) ?_; intro hv2 wA q1 q2 _ q4; have al := (Below.refl w9.heap.size w9).alloc (Nat.le_refl _) (.cells #[.int .i64 (x : Int)] 3 (0, 0)); have STA := Lib.hid ((ST9.out.keep al).pushH (x := (x : Int)) (RwOwn.push ST9.out.hs.2 rfl q1) q2); clear q1 q2 q4 al; go_frame)
          go_wp2_with (at_builtin; refine wpList_append_own_at _ rfl _ _ 38 rfl base 22 k0 (.int .u32 0) 1 4 Try.underlying38 hk hu0 hu1 hu2 rfl (by decide) pv _ (Q.map u32C).flatten rfl (STA.out.ps.1.alloc _) ⟨wA.heap.size, 0, none⟩ 1 1 [.int .u32 (pa : Int)] rfl rfl (cell_one_new _ _ _) (fun u hu => by obtain rfl := List.mem_singleton.1 hu; rfl) (by have := Dps.out; unfold maxLen; omega) (by have := Dps.out; omega) (by have := STA.out.sz; simp; omega) ?_; intro pv2 wB q1 q2 _ q4; have al := (Below.refl wA.heap.size wA).alloc (Nat.le_refl _) (.cells #[.int .u32 (pa : Int)] 22 (0, 0)); have STB := Lib.hid ((STA.out.keep al).pushP (x := pa) (RwOwn.push STA.out.ps.2 rfl q1) q2); clear q1 q2 q4 al; go_frame)
          go_roundw
          case rel =>
            refine ⟨i + 1, S ++ [k], H ++ [(x : Int)], Q ++ [pa], iv2, hv2, pv2, high, late, rfl, rfl, ?_, ?_, by go_num, by omega, by rw [List.length_append, LS.out]; rfl, by rw [List.length_append, LH.out]; rfl, by rw [List.length_append, LQ.out]; rfl, ?_, mem_snoc S1.out (by have := KL.out; omega), mem_snoc S2.out ⟨by omega, by have := XL.out; omega⟩, mem_snoc S3.out PB.out, ?_, ?_, ?_, ?_, STB.out⟩
            · first | rfl | exact congrArg (Value.int .i64) (by omega)
            · first | rfl | exact congrArg (Value.int .i64) (by omega)
            · rw [smF_snoc (by rw [LS.out, LH.out]) (by rw [LH.out, LQ.out]), FF.out]
              exact FN.out
            · have := HB1.out; omega
            · have := HB2.out; have := KL.out; have := XL.out; omega
            · have := HB3.out; omega
            · have := HB4.out; have := KL.out; have := PB.out; omega
          case measure => simp [intOf] <;> omega
      · by_cases hm1 : m = 1
        · have m0 : ((m : Int) == 0) = false := by simp; omega
          have m1 : ((m : Int) == 1) = true := by simp; omega
          obtain ⟨s, SE, BO1, SB⟩ := time_names hk2
          have bo := BO1.out
          have c34 : w5.cell? ⟨g5, 34, none⟩ = some (.int .u32 (k : Int)) := by rw [cell_of_row _ _ _ _ _ _ F5.out]; rfl
          have m3 : IntKind.i64.wrap (512 * (k : Int)) = 512 * (k : Int) := IntWalk.i64_in _ (by omega)
          have m4 : IntKind.i64.wrap ((pa : Int) + 512 * (k : Int)) = (pa : Int) + 512 * (k : Int) := IntWalk.i64_in _ (by have := PB.out; omega)
          have m5 : IntKind.i64.wrap ((pa : Int) + 512 * (k : Int) - 1) = (pa : Int) + 512 * (k : Int) - 1 := IntWalk.i64_in _ (by have := PB.out; omega)
          have pb := PB.out
          clear hm0 BO1
          by_cases hcm : late < (pa : Int) + 512 * (k : Int) - 1
          · have c2 : ¬ (pa : Int) + 512 * (k : Int) - 1 < late := by omega
            have FN : Hid (needStep (high, late) (s, (x : Int), pa) = (high, (pa : Int) + 512 * (k : Int) - 1)) := by show _ = _; rw [SE.out, smS_t KL.out high late (x : Int) pa, Int.max_eq_right (by omega)]
            go_upto_region 26 with ((with_reducible show wpList _ _ _ _ _ _); (refine wpList_store_part rfl 22 (.tmp 88) (.tmp 87) rfl g5 34 sqA [nV k] [] [nV s] 31 (nV s) rfl rfl rfl rfl rfl F5.out (by kernel_rfl) (fun u hu => by obtain rfl := List.mem_singleton.1 hu; rfl) ?_; intro w6 q1 q2; have F6 : Hid (w6.heap[g5]? = some (.cells (smX s).toArray 31 (0, 0))) := (by rw [List.append_nil] at q1; exact q1); have ST6 := Lib.hid (ST.out.keep (BW.out.grown q2 BW.out.size (fun q hq => by cases hq; exact N5.out))); clear q1 q2; go_frame))
            clear pb
            have c61 : w6.cell? ⟨g9, 1, none⟩ = some iv := by rw [cell_of_row _ _ _ _ _ _ ST6.out.tx]; rfl
            go_upto_region 27 with (first | ((with_reducible show wpList _ _ _ _ _ _); first | (refine wpList_load_row rfl 31 (.tmp 18) rfl g5 rfl 31 (smX s).toArray (0, 0) _ F6.out Try.underlying31 rfl (by kernel_rfl) ?_; go_frame) | (refine wpList_slice_one rfl 32 31 (.tmp 99) rfl (smX s) rfl Try.underlying32 i0 _ hi hz0 (by rw [hz1]; rfl) (by show 0 < 35; omega) (by show 35 ≤ _; omega) ?_; have nf := heap_alloc_new w6 (.cells (smX s).toArray 31 (0, 0)); have bb := (Below.refl w6.heap.size w6).alloc (Nat.le_refl _) (.cells (smX s).toArray 31 (0, 0)); obtain ⟨gN, hgN⟩ : ∃ g, g = w6.heap.size := ⟨_, rfl⟩; generalize hq : World.alloc _ _ = w7; have e7 : w6.alloc (.cells (smX s).toArray 31 (0, 0)) = w7 := hq; rw [e7] at nf bb; rw [← hgN] at nf ⊢; have NF := Lib.hid nf; have ST7 := Lib.hid (ST6.out.keep bb); clear nf bb hq e7 hgN; go_frame) | (refine wpList_store_part rfl 32 (.tmp 102) (.tmp 101) rfl g9 1 [nV 2] [iv] [.slice none 0 0, nV 0] [iv2] 35 iv2 rfl rfl (cells_one (own_one IO.out.1)) rfl rfl TX8.out (by kernel_rfl) (one_mem (own_one IO.out.1)) ?_; intro w9 q1 q2; have ST9 := Lib.hid (ST7.out.pushI IO.out Q8.out q1 q2); clear q1 q2; go_frame)) | (at_builtin; refine wpList_append_own_at _ rfl _ _ 32 rfl base 31 i0 (.agg (List.replicate 32 (bV 0) ++ [nV 0, .slice none 0 0, nV 0]).toArray) 35 72 Try.underlying32 hi hz0 hz1 hz2 (by kernel_rfl) (by decide) iv _ (S.map smX).flatten rfl ST7.out.ins.1 ⟨gN, 0, none⟩ 1 1 (smX s) rfl rfl (fun j u hj => by rw [Addr.add_mid]; exact range_of_box NF.out j u hj) (smX_one s) (by have := Dins.out; unfold maxLen; omega) (by have := Dins.out; omega) ST7.out.sz ?_; intro iv2 w8 q1 q2 _ q4; have IO : Hid (RwOwn 35 31 base w8 iv2 (S.map smX ++ [smX s])) := RwOwn.push ST7.out.ins.2 (smX_length s) q1; have TX8 : Hid (w8.heap[g9]? = some (.cells ([nV 2] ++ [iv] ++ [.slice none 0 0, nV 0]).toArray 35 (0, 0))) := ST7.out.txrow ST7.out.ins q2; have Q8 := Lib.hid q2; clear q1 q2 q4; go_frame))
            clear c61
            go_upto_region 28 with (at_builtin; refine wpList_append_own_at _ rfl _ _ 37 rfl base 3 j0 (.int .i64 0) 1 8 Try.underlying37 hj hy0 hy1 hy2 rfl (by decide) hv _ (H.map intC).flatten rfl (ST9.out.hs.1.alloc _) ⟨w9.heap.size, 0, none⟩ 1 1 [.int .i64 (x : Int)] rfl rfl (cell_one_new _ _ _) (fun u hu => by obtain rfl := List.mem_singleton.1 hu; rfl) (by have := Dhs.out; unfold maxLen; omega) (by have := Dhs.out; omega) (by have := ST9.out.sz; simp; omega) ?_; intro hv2 wA q1 q2 _ q4; have al := (Below.refl w9.heap.size w9).alloc (Nat.le_refl _) (.cells #[.int .i64 (x : Int)] 3 (0, 0)); have STA := Lib.hid ((ST9.out.keep al).pushH (x := (x : Int)) (RwOwn.push ST9.out.hs.2 rfl q1) q2); clear q1 q2 q4 al; go_frame)
            go_wp2_with (at_builtin; refine wpList_append_own_at _ rfl _ _ 38 rfl base 22 k0 (.int .u32 0) 1 4 Try.underlying38 hk hu0 hu1 hu2 rfl (by decide) pv _ (Q.map u32C).flatten rfl (STA.out.ps.1.alloc _) ⟨wA.heap.size, 0, none⟩ 1 1 [.int .u32 (pa : Int)] rfl rfl (cell_one_new _ _ _) (fun u hu => by obtain rfl := List.mem_singleton.1 hu; rfl) (by have := Dps.out; unfold maxLen; omega) (by have := Dps.out; omega) (by have := STA.out.sz; simp; omega) ?_; intro pv2 wB q1 q2 _ q4; have al := (Below.refl wA.heap.size wA).alloc (Nat.le_refl _) (.cells #[.int .u32 (pa : Int)] 22 (0, 0)); have STB := Lib.hid ((STA.out.keep al).pushP (x := pa) (RwOwn.push STA.out.ps.2 rfl q1) q2); clear q1 q2 q4 al; go_frame)
            go_roundw
            case rel =>
              refine ⟨i + 1, S ++ [s], H ++ [(x : Int)], Q ++ [pa], iv2, hv2, pv2, high, (pa : Int) + 512 * (k : Int) - 1, rfl, rfl, ?_, ?_, by go_num, by omega, by rw [List.length_append, LS.out]; rfl, by rw [List.length_append, LH.out]; rfl, by rw [List.length_append, LQ.out]; rfl, ?_, mem_snoc S1.out (by have := SB.out; omega), mem_snoc S2.out ⟨by omega, by have := XL.out; omega⟩, mem_snoc S3.out PB.out, ?_, ?_, ?_, ?_, STB.out⟩
              · first | rfl | exact congrArg (Value.int .i64) (by omega)
              · first | rfl | exact congrArg (Value.int .i64) (by omega)
              · rw [smF_snoc (by rw [LS.out, LH.out]) (by rw [LH.out, LQ.out]), FF.out]
                exact FN.out
              · have := HB1.out; omega
              · have := HB2.out; have := KL.out; have := XL.out; omega
              · have := HB3.out; omega
              · have := HB4.out; have := KL.out; have := PB.out; omega
            case measure => simp [intOf] <;> omega
          · have c2 : (pa : Int) + 512 * (k : Int) - 1 ≤ late := by omega
            have FN : Hid (needStep (high, late) (s, (x : Int), pa) = (high, late)) := by show _ = _; rw [SE.out, smS_t KL.out high late (x : Int) pa, Int.max_eq_left (by omega)]
            go_upto_region 26 with ((with_reducible show wpList _ _ _ _ _ _); (refine wpList_store_part rfl 22 (.tmp 88) (.tmp 87) rfl g5 34 sqA [nV k] [] [nV s] 31 (nV s) rfl rfl rfl rfl rfl F5.out (by kernel_rfl) (fun u hu => by obtain rfl := List.mem_singleton.1 hu; rfl) ?_; intro w6 q1 q2; have F6 : Hid (w6.heap[g5]? = some (.cells (smX s).toArray 31 (0, 0))) := (by rw [List.append_nil] at q1; exact q1); have ST6 := Lib.hid (ST.out.keep (BW.out.grown q2 BW.out.size (fun q hq => by cases hq; exact N5.out))); clear q1 q2; go_frame))
            clear pb
            have c61 : w6.cell? ⟨g9, 1, none⟩ = some iv := by rw [cell_of_row _ _ _ _ _ _ ST6.out.tx]; rfl
            go_upto_region 27 with (first | ((with_reducible show wpList _ _ _ _ _ _); first | (refine wpList_load_row rfl 31 (.tmp 18) rfl g5 rfl 31 (smX s).toArray (0, 0) _ F6.out Try.underlying31 rfl (by kernel_rfl) ?_; go_frame) | (refine wpList_slice_one rfl 32 31 (.tmp 99) rfl (smX s) rfl Try.underlying32 i0 _ hi hz0 (by rw [hz1]; rfl) (by show 0 < 35; omega) (by show 35 ≤ _; omega) ?_; have nf := heap_alloc_new w6 (.cells (smX s).toArray 31 (0, 0)); have bb := (Below.refl w6.heap.size w6).alloc (Nat.le_refl _) (.cells (smX s).toArray 31 (0, 0)); obtain ⟨gN, hgN⟩ : ∃ g, g = w6.heap.size := ⟨_, rfl⟩; generalize hq : World.alloc _ _ = w7; have e7 : w6.alloc (.cells (smX s).toArray 31 (0, 0)) = w7 := hq; rw [e7] at nf bb; rw [← hgN] at nf ⊢; have NF := Lib.hid nf; have ST7 := Lib.hid (ST6.out.keep bb); clear nf bb hq e7 hgN; go_frame) | (refine wpList_store_part rfl 32 (.tmp 102) (.tmp 101) rfl g9 1 [nV 2] [iv] [.slice none 0 0, nV 0] [iv2] 35 iv2 rfl rfl (cells_one (own_one IO.out.1)) rfl rfl TX8.out (by kernel_rfl) (one_mem (own_one IO.out.1)) ?_; intro w9 q1 q2; have ST9 := Lib.hid (ST7.out.pushI IO.out Q8.out q1 q2); clear q1 q2; go_frame)) | (at_builtin; refine wpList_append_own_at _ rfl _ _ 32 rfl base 31 i0 (.agg (List.replicate 32 (bV 0) ++ [nV 0, .slice none 0 0, nV 0]).toArray) 35 72 Try.underlying32 hi hz0 hz1 hz2 (by kernel_rfl) (by decide) iv _ (S.map smX).flatten rfl ST7.out.ins.1 ⟨gN, 0, none⟩ 1 1 (smX s) rfl rfl (fun j u hj => by rw [Addr.add_mid]; exact range_of_box NF.out j u hj) (smX_one s) (by have := Dins.out; unfold maxLen; omega) (by have := Dins.out; omega) ST7.out.sz ?_; intro iv2 w8 q1 q2 _ q4; have IO : Hid (RwOwn 35 31 base w8 iv2 (S.map smX ++ [smX s])) := RwOwn.push ST7.out.ins.2 (smX_length s) q1; have TX8 : Hid (w8.heap[g9]? = some (.cells ([nV 2] ++ [iv] ++ [.slice none 0 0, nV 0]).toArray 35 (0, 0))) := ST7.out.txrow ST7.out.ins q2; have Q8 := Lib.hid q2; clear q1 q2 q4; go_frame))
            clear c61
            go_upto_region 28 with (at_builtin; refine wpList_append_own_at _ rfl _ _ 37 rfl base 3 j0 (.int .i64 0) 1 8 Try.underlying37 hj hy0 hy1 hy2 rfl (by decide) hv _ (H.map intC).flatten rfl (ST9.out.hs.1.alloc _) ⟨w9.heap.size, 0, none⟩ 1 1 [.int .i64 (x : Int)] rfl rfl (cell_one_new _ _ _) (fun u hu => by obtain rfl := List.mem_singleton.1 hu; rfl) (by have := Dhs.out; unfold maxLen; omega) (by have := Dhs.out; omega) (by have := ST9.out.sz; simp; omega) ?_; intro hv2 wA q1 q2 _ q4; have al := (Below.refl w9.heap.size w9).alloc (Nat.le_refl _) (.cells #[.int .i64 (x : Int)] 3 (0, 0)); have STA := Lib.hid ((ST9.out.keep al).pushH (x := (x : Int)) (RwOwn.push ST9.out.hs.2 rfl q1) q2); clear q1 q2 q4 al; go_frame)
            go_wp2_with (at_builtin; refine wpList_append_own_at _ rfl _ _ 38 rfl base 22 k0 (.int .u32 0) 1 4 Try.underlying38 hk hu0 hu1 hu2 rfl (by decide) pv _ (Q.map u32C).flatten rfl (STA.out.ps.1.alloc _) ⟨wA.heap.size, 0, none⟩ 1 1 [.int .u32 (pa : Int)] rfl rfl (cell_one_new _ _ _) (fun u hu => by obtain rfl := List.mem_singleton.1 hu; rfl) (by have := Dps.out; unfold maxLen; omega) (by have := Dps.out; omega) (by have := STA.out.sz; simp; omega) ?_; intro pv2 wB q1 q2 _ q4; have al := (Below.refl wA.heap.size wA).alloc (Nat.le_refl _) (.cells #[.int .u32 (pa : Int)] 22 (0, 0)); have STB := Lib.hid ((STA.out.keep al).pushP (x := pa) (RwOwn.push STA.out.ps.2 rfl q1) q2); clear q1 q2 q4 al; go_frame)
            go_roundw
            case rel =>
              refine ⟨i + 1, S ++ [s], H ++ [(x : Int)], Q ++ [pa], iv2, hv2, pv2, high, late, rfl, rfl, ?_, ?_, by go_num, by omega, by rw [List.length_append, LS.out]; rfl, by rw [List.length_append, LH.out]; rfl, by rw [List.length_append, LQ.out]; rfl, ?_, mem_snoc S1.out (by have := SB.out; omega), mem_snoc S2.out ⟨by omega, by have := XL.out; omega⟩, mem_snoc S3.out PB.out, ?_, ?_, ?_, ?_, STB.out⟩
              · first | rfl | exact congrArg (Value.int .i64) (by omega)
              · first | rfl | exact congrArg (Value.int .i64) (by omega)
              · rw [smF_snoc (by rw [LS.out, LH.out]) (by rw [LH.out, LQ.out]), FF.out]
                exact FN.out
              · have := HB1.out; omega
              · have := HB2.out; have := KL.out; have := XL.out; omega
              · have := HB3.out; omega
              · have := HB4.out; have := KL.out; have := PB.out; omega
            case measure => simp [intOf] <;> omega
        · have m0 : ((m : Int) == 0) = false := by simp; omega
          have m1 : ((m : Int) == 1) = false := by simp; omega
          have SB0 : k < 2147483648 := by omega
          obtain ⟨s, SE, BO1, SB⟩ := lock_names SB0
          have bo := BO1.out
          have c34 : w5.cell? ⟨g5, 34, none⟩ = some (.int .u32 (k : Int)) := by rw [cell_of_row _ _ _ _ _ _ F5.out]; rfl
          have FN : Hid (needStep (high, late) (s, (x : Int), pa) = (high, late)) := by show _ = _; rw [SE.out, smS_l SB0 high late (x : Int) pa]
          clear hm0 hm1 BO1 SB0
          go_upto_region 26 with ((with_reducible show wpList _ _ _ _ _ _); (refine wpList_store_part rfl 22 (.tmp 74) (.tmp 73) rfl g5 34 sqA [nV k] [] [nV s] 31 (nV s) rfl rfl rfl rfl rfl F5.out (by kernel_rfl) (fun u hu => by obtain rfl := List.mem_singleton.1 hu; rfl) ?_; intro w6 q1 q2; have F6 : Hid (w6.heap[g5]? = some (.cells (smX s).toArray 31 (0, 0))) := (by rw [List.append_nil] at q1; exact q1); have ST6 := Lib.hid (ST.out.keep (BW.out.grown q2 BW.out.size (fun q hq => by cases hq; exact N5.out))); clear q1 q2; go_frame))
          have c61 : w6.cell? ⟨g9, 1, none⟩ = some iv := by rw [cell_of_row _ _ _ _ _ _ ST6.out.tx]; rfl
          go_upto_region 27 with (first | ((with_reducible show wpList _ _ _ _ _ _); first | (refine wpList_load_row rfl 31 (.tmp 18) rfl g5 rfl 31 (smX s).toArray (0, 0) _ F6.out Try.underlying31 rfl (by kernel_rfl) ?_; go_frame) | (refine wpList_slice_one rfl 32 31 (.tmp 99) rfl (smX s) rfl Try.underlying32 i0 _ hi hz0 (by rw [hz1]; rfl) (by show 0 < 35; omega) (by show 35 ≤ _; omega) ?_; have nf := heap_alloc_new w6 (.cells (smX s).toArray 31 (0, 0)); have bb := (Below.refl w6.heap.size w6).alloc (Nat.le_refl _) (.cells (smX s).toArray 31 (0, 0)); obtain ⟨gN, hgN⟩ : ∃ g, g = w6.heap.size := ⟨_, rfl⟩; generalize hq : World.alloc _ _ = w7; have e7 : w6.alloc (.cells (smX s).toArray 31 (0, 0)) = w7 := hq; rw [e7] at nf bb; rw [← hgN] at nf ⊢; have NF := Lib.hid nf; have ST7 := Lib.hid (ST6.out.keep bb); clear nf bb hq e7 hgN; go_frame) | (refine wpList_store_part rfl 32 (.tmp 102) (.tmp 101) rfl g9 1 [nV 2] [iv] [.slice none 0 0, nV 0] [iv2] 35 iv2 rfl rfl (cells_one (own_one IO.out.1)) rfl rfl TX8.out (by kernel_rfl) (one_mem (own_one IO.out.1)) ?_; intro w9 q1 q2; have ST9 := Lib.hid (ST7.out.pushI IO.out Q8.out q1 q2); clear q1 q2; go_frame)) | (at_builtin; refine wpList_append_own_at _ rfl _ _ 32 rfl base 31 i0 (.agg (List.replicate 32 (bV 0) ++ [nV 0, .slice none 0 0, nV 0]).toArray) 35 72 Try.underlying32 hi hz0 hz1 hz2 (by kernel_rfl) (by decide) iv _ (S.map smX).flatten rfl ST7.out.ins.1 ⟨gN, 0, none⟩ 1 1 (smX s) rfl rfl (fun j u hj => by rw [Addr.add_mid]; exact range_of_box NF.out j u hj) (smX_one s) (by have := Dins.out; unfold maxLen; omega) (by have := Dins.out; omega) ST7.out.sz ?_; intro iv2 w8 q1 q2 _ q4; have IO : Hid (RwOwn 35 31 base w8 iv2 (S.map smX ++ [smX s])) := RwOwn.push ST7.out.ins.2 (smX_length s) q1; have TX8 : Hid (w8.heap[g9]? = some (.cells ([nV 2] ++ [iv] ++ [.slice none 0 0, nV 0]).toArray 35 (0, 0))) := ST7.out.txrow ST7.out.ins q2; have Q8 := Lib.hid q2; clear q1 q2 q4; go_frame))
          clear c61
          go_upto_region 28 with (at_builtin; refine wpList_append_own_at _ rfl _ _ 37 rfl base 3 j0 (.int .i64 0) 1 8 Try.underlying37 hj hy0 hy1 hy2 rfl (by decide) hv _ (H.map intC).flatten rfl (ST9.out.hs.1.alloc _) ⟨w9.heap.size, 0, none⟩ 1 1 [.int .i64 (x : Int)] rfl rfl (cell_one_new _ _ _) (fun u hu => by obtain rfl := List.mem_singleton.1 hu; rfl) (by have := Dhs.out; unfold maxLen; omega) (by have := Dhs.out; omega) (by have := ST9.out.sz; simp; omega) ?_; intro hv2 wA q1 q2 _ q4; have al := (Below.refl w9.heap.size w9).alloc (Nat.le_refl _) (.cells #[.int .i64 (x : Int)] 3 (0, 0)); have STA := Lib.hid ((ST9.out.keep al).pushH (x := (x : Int)) (RwOwn.push ST9.out.hs.2 rfl q1) q2); clear q1 q2 q4 al; go_frame)
          go_wp2_with (at_builtin; refine wpList_append_own_at _ rfl _ _ 38 rfl base 22 k0 (.int .u32 0) 1 4 Try.underlying38 hk hu0 hu1 hu2 rfl (by decide) pv _ (Q.map u32C).flatten rfl (STA.out.ps.1.alloc _) ⟨wA.heap.size, 0, none⟩ 1 1 [.int .u32 (pa : Int)] rfl rfl (cell_one_new _ _ _) (fun u hu => by obtain rfl := List.mem_singleton.1 hu; rfl) (by have := Dps.out; unfold maxLen; omega) (by have := Dps.out; omega) (by have := STA.out.sz; simp; omega) ?_; intro pv2 wB q1 q2 _ q4; have al := (Below.refl wA.heap.size wA).alloc (Nat.le_refl _) (.cells #[.int .u32 (pa : Int)] 22 (0, 0)); have STB := Lib.hid ((STA.out.keep al).pushP (x := pa) (RwOwn.push STA.out.ps.2 rfl q1) q2); clear q1 q2 q4 al; go_frame)
          go_roundw
          case rel =>
            refine ⟨i + 1, S ++ [s], H ++ [(x : Int)], Q ++ [pa], iv2, hv2, pv2, high, late, rfl, rfl, ?_, ?_, by go_num, by omega, by rw [List.length_append, LS.out]; rfl, by rw [List.length_append, LH.out]; rfl, by rw [List.length_append, LQ.out]; rfl, ?_, mem_snoc S1.out (SB.out), mem_snoc S2.out ⟨by omega, by have := XL.out; omega⟩, mem_snoc S3.out PB.out, ?_, ?_, ?_, ?_, STB.out⟩
            · first | rfl | exact congrArg (Value.int .i64) (by omega)
            · first | rfl | exact congrArg (Value.int .i64) (by omega)
            · rw [smF_snoc (by rw [LS.out, LH.out]) (by rw [LH.out, LQ.out]), FF.out]
              exact FN.out
            · have := HB1.out; omega
            · have := HB2.out; have := KL.out; have := XL.out; omega
            · have := HB3.out; omega
            · have := HB4.out; have := KL.out; have := PB.out; omega
          case measure => simp [intOf] <;> omega
    · have hin2 : i = n := by omega
      have i1 : ¬ (i : Int) < (n : Int) := by omega
      have LN : Hid (S.length ≤ 10) := by show _ ≤ _; rw [LS.out]; omega
      have E2 : Hid (sqV (smT 2 S) H Q = (high, late)) := by show _ = _; rw [sm_need S2.out]; exact FF.out
      have E1 : Hid (sqV (smT 1 S) H Q = (-1, -1)) := if_pos (show (1 : Nat) < 2 by omega)
      have S3' : Hid (∀ x ∈ Q, x ≤ 4294967295) := fun x hx => Nat.le_trans (S3.out x hx) (by omega)
      have L1 : Hid (S.length = H.length) := by show _ = _; rw [LS.out, LH.out]
      have L2 : Hid (H.length = Q.length) := by show _ = _; rw [LH.out, LQ.out]
      have Dhs : Hid ((H.map intC).length ≤ 10) := by show _ ≤ _; rw [List.length_map, LH.out]; omega
      clear hin2 hlt HA HB HC BA BB BC NA NB NC
      go_wp2_with ((with_reducible show wpList _ _ _ _ _ _); (refine wpList_load_row rfl 35 (.tmp 9) rfl g9 rfl 35 (smC 2 iv).toArray (0, 0) _ ST.out.tx Try.underlying35 rfl (by kernel_rfl) ?_; go_frame))
      refine (ST.out.need S1.out S2.out S3'.out (by omega) L1.out L2.out LN.out high late E2.out).mono ?_
      rintro e wN ⟨rfl, hs⟩
      have ST := Lib.hid hs
      clear hs
      go_wp2_with ((with_reducible show wpList _ _ _ _ _ _); first | (refine wpList_load_row rfl 35 (.tmp 9) rfl g9 rfl 35 (smC 1 iv).toArray (0, 0) _ ST.out.tx Try.underlying35 rfl (by kernel_rfl) ?_; go_frame) | (refine wpList_store_part rfl 22 (.tmp 119) _ rfl g9 0 [] [nV 2] [iv, .slice none 0 0, nV 0] [nV 1] 35 (nV 1) rfl rfl rfl rfl rfl ST.out.tx (by kernel_rfl) (fun u hu => by obtain rfl := List.mem_singleton.1 hu; rfl) ?_; intro wv q1 q2; have ST := Lib.hid (ST.out.ver (v' := 1) q1 q2); clear q1 q2; go_frame))
      refine (ST.out.need S1.out S2.out S3'.out (by omega) L1.out L2.out LN.out (-1) (-1) E1.out).mono ?_
      rintro e w9 ⟨rfl, hs⟩
      have ST := Lib.hid hs
      clear hs
      go_upto_region 32 with fail
      refine wp_region_held_drew (S := (fun w' => w'.heap[g9]? = some (.cells (smC 1 iv).toArray 35 (0, 0)))) (by kernel_rfl) (row_below ST.out.tx (Below.drew (Below.refl _ _))) (fun hHeld => ?_)
      have STd := Lib.hid (ST.out.keep (Below.drew (Below.refl w9.heap.size w9)))
      generalize hwd : w9.drew = wd at STd hHeld ⊢
      clear hwd
      refine held_take (i := 0) (v := (.agg (smC 1 iv).toArray)) rfl (by kernel_rfl) (by kernel_rfl) (by kernel_rfl) (fun _ _ _ h => h) (yieldsIf_load_row (by rfl) 35 (.tmp 9) rfl g9 rfl 35 (smC 1 iv).toArray (0, 0) _ (fun w' hw' => hw') Try.underlying35 rfl (by kernel_rfl)) hHeld ?_
      go_frame
      refine held_take (i := 1) (v := hv) rfl (by kernel_rfl) (by kernel_rfl) (by kernel_rfl) (fun _ _ _ h => h) (Or.inl ⟨by rfl, fun w' _ => by kernel_rfl⟩) hHeld ?_
      go_frame
      refine held_take (i := 4) (v := pv) rfl (by kernel_rfl) (by kernel_rfl) (by kernel_rfl) (fun _ _ _ h => h) (Or.inl ⟨by rfl, fun w' _ => by kernel_rfl⟩) hHeld ?_
      go_frame
      refine wpAnyH_ready (rs := [2]) (by kernel_rfl) (by simp) (held_cons rfl (fun K hK => ?_) AllReadyH.nil)
      rw [if_pos (by rfl)]
      refine wp_slice_int 37 _ rfl 1 rfl Try.underlying37 j0 _ hj hy0 hy1 ?_
      have nf := heap_alloc_new wd (.cells #[.int .i64 1] 3 (0, 0))
      have bb := (Below.refl wd.heap.size wd).alloc (Nat.le_refl _) (.cells #[.int .i64 1] 3 (0, 0))
      obtain ⟨gN, hgN⟩ : ∃ g, g = wd.heap.size := ⟨_, rfl⟩
      generalize hqv1 : World.alloc _ _ = v1
      have ev1 : wd.alloc (.cells #[.int .i64 1] 3 (0, 0)) = v1 := hqv1
      rw [ev1] at nf bb
      rw [← hgN] at nf ⊢
      have NF := Lib.hid nf
      have STn := Lib.hid (STd.out.keep bb)
      clear nf bb hqv1 ev1 hgN hHeld
      go_frame
      refine hK.out _ _ STn.out.tx (fun hHeld => ?_)
      clear hK K
      refine wpAnyH_ready (rs := [3]) (by kernel_rfl) (by simp) (held_cons rfl (fun K hK => ?_) AllReadyH.nil)
      rw [if_pos (by rfl)]
      have STa := STn
      refine wp_append_row v1 (.tmp 130) (.tmp 131) 37 rfl base 3 j0 (.int .i64 0) 1 8 Try.underlying37 hj hy0 hy1 hy2 rfl (by decide) hv _ (H.map intC).flatten rfl STa.out.hs.1 ⟨gN, 0, none⟩ 1 1 [.int .i64 1] rfl rfl (fun j u hj => by rw [Addr.add_mid]; exact range_of_box NF.out j u hj) (fun u hu => by obtain rfl := List.mem_singleton.1 hu; rfl) (by have := Dhs.out; unfold maxLen; omega) (by have := Dhs.out; omega) STa.out.sz ?_
      intro hv3 v2 q1 q2 q3
      have STb := Lib.hid (STa.out.pushH (x := 1) (RwOwn.push STa.out.hs.2 rfl q1) q2)
      clear q1 q2 q3 hHeld STa
      go_frame
      refine hK.out _ _ STb.out.tx (fun hHeld => ?_)
      clear hK K
      refine wpAnyH_ready (rs := [5]) (by kernel_rfl) (by simp) (held_cons rfl (fun K hK => ?_) AllReadyH.nil)
      rw [if_pos (by rfl)]
      go_simp
      refine (STb.out.none S1.out (by omega) (by rw [List.length_append, ← L1.out]; show S.length + 1 ≠ S.length; omega)).mono ?_
      rintro e v3 ⟨rfl, bz⟩
      have STc := Lib.hid bz
      have BZ := Lib.hid bz.below
      clear bz
      go_wp2_with fail
      refine hK.out _ _ STc.out.tx (fun hHeld => ?_)
      clear hK K
      refine held_take (i := 6) (v := (.tuple #[.int .i64 0, .int .i64 0, .bool false])) rfl (by kernel_rfl) (by kernel_rfl) (by kernel_rfl) (fun _ _ _ h => h) (Or.inl ⟨by rfl, fun w' _ => by kernel_rfl⟩) hHeld ?_
      go_frame
      refine held_take (i := 7) (v := (.int .i64 0)) rfl (by kernel_rfl) (by kernel_rfl) (by kernel_rfl) (fun _ _ _ h => h) (Or.inl ⟨by rfl, fun w' _ => by kernel_rfl⟩) hHeld ?_
      go_frame
      refine held_take (i := 8) (v := (.int .i64 0)) rfl (by kernel_rfl) (by kernel_rfl) (by kernel_rfl) (fun _ _ _ h => h) (Or.inl ⟨by rfl, fun w' _ => by kernel_rfl⟩) hHeld ?_
      go_frame
      refine held_take (i := 9) (v := (.bool false)) rfl (by kernel_rfl) (by kernel_rfl) (by kernel_rfl) (fun _ _ _ h => h) (Or.inl ⟨by rfl, fun w' _ => by kernel_rfl⟩) hHeld ?_
      go_frame
      refine held_take (i := 10) (v := (.int .i64 0)) rfl (by kernel_rfl) (by kernel_rfl) (by kernel_rfl) (fun _ _ _ h => h) (Or.inl ⟨by rfl, fun w' _ => by kernel_rfl⟩) hHeld ?_
      go_frame
      refine held_take (i := 11) (v := (.int .i64 0)) rfl (by kernel_rfl) (by kernel_rfl) (by kernel_rfl) (fun _ _ _ h => h) (Or.inl ⟨by rfl, fun w' _ => by kernel_rfl⟩) hHeld ?_
      go_frame
      refine held_take (i := 12) (v := (.bool false)) rfl (by kernel_rfl) (by kernel_rfl) (by kernel_rfl) (fun _ _ _ h => h) (Or.inl ⟨by rfl, fun w' _ => by kernel_rfl⟩) hHeld ?_
      go_frame
      refine wpAnyH_done (by kernel_rfl) ?_ _
      go_wp2_with fail
      go_ret
      exact ⟨rfl, BZ.out⟩
end Go.Proofs.Ytmdbhpkfldnodaa.Sha
