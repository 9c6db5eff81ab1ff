/-
  The statement on coins added, got and spent answers true. Nothing that was there turns. Conditions: the coins lie where the slice says; the errors, the table of the rounds' words are there.
-/
import Derived.Test.YtlmfchcafhidoaaDoorMg08
import Derived.Test.YtlmfchcafhidoaaDoorMg10
import Derived.Test.YtlmfchcafhidoaaDoorMg01
namespace Go.Proofs.YtlmfchcafhidoaaDoor.Sha
open Go Go.RowKit
theorem TwoS.far {w w' : World} {a b x : Nat} {m k : Option Nat} {s t : List TSp} (h : TwoS w a m s b k t) (hg : w.grownBy w' (some x)) (hx : (x ≠ a ∧ m ≠ some x) ∧ (x ≠ b ∧ k ≠ some x)) : TwoS w' a m s b k t :=
  ⟨h.l.kps (F := fun j => j ≠ x) (Kps.grown hg fun j _ hj e => hj (Option.some.inj e)) (fun e => hx.1.1 e.symm) (fun q e e' => hx.1.2 (by rw [e, e'])), h.r.kps (F := fun j => j ≠ x) (Kps.grown hg fun j _ hj e => hj (Option.some.inj e)) (fun e => hx.2.1 e.symm) (fun q e e' => hx.2.2 (by rw [e, e'])), h.ne, h.x1, h.x2, h.x3⟩
def BkInvC (l : List TSp) (n g6 g7 : Nat) (w : World) (vi : Value) (wr : World) : Prop :=
  ∃ (k : Nat) (m6 m7 : Option Nat), k ≤ n ∧ vi = .int .i64 (k : Int) ∧ TwoS wr g6 m6 (bkS l k) g7 m7 (bkT l n k) ∧ HiM w.heap.size m6 ∧ HiM w.heap.size m7 ∧ Below w.heap.size w wr
set_option maxHeartbeats 8000000 in
set_option maxRecDepth 100000 in
theorem coinback_main (E : Nat → Addr) (l : List TSp) (v : Value) (x1 : Int) (w : World) (hE : Errs w E) (hk : KTab w) (hl : RwAt 68 w v (l.map spL)) (ho : ∀ x ∈ l, SpOk x) (hmax : l.length ≤ 9223372036854775807) (hx1 : -9223372036854775808 ≤ x1 ∧ x1 ≤ 9223372036854775807) :
    Calls Tryd.prog 4 #[v, .int .i64 x1] w fun e w' => e = .returned (.bool true) ∧ Below w.heap.size w w' := by
  obtain ⟨sp, cap, rfl⟩ := hl.shape
  rw [List.length_map] at hl ⊢
  obtain ⟨n, hn⟩ : ∃ n, n = l.length := ⟨_, rfl⟩
  rw [← hn] at hl hmax ⊢
  have N := Lib.hid hn
  have HE := Lib.hid hE
  have HK := Lib.hid hk
  have HL := Lib.hid hl
  have OK := Lib.hid ho
  have HX := Lib.hid hx1
  clear hn hE hl ho hk hx1
  go_enter Tryd.func4, Tryd.ntmps4
  go_wp2_with fail
  refine (cfirst_any E w HE.out).mono ?_
  rintro e w1 ⟨rfl, b1⟩
  have B1 := Lib.hid b1
  clear b1
  by_cases h0 : n = 0
  · have hz : ((n : Int) == 0) = true := by simp [h0]
    have hz' : (n : Int) = 0 := by omega
    clear h0
    go_wp2_with fail
    go_ret
    exact ⟨rfl, B1.out⟩
  have hz : ((n : Int) == 0) = false := by rw [beq_eq_false_iff_ne]; omega
  have hz' : ¬ (n : Int) = 0 := by omega
  by_cases hbig : 40 < n
  · have hb' : (40 : Int) < (n : Int) := by omega
    go_wp2_with fail
    go_ret
    exact ⟨rfl, B1.out⟩
  have hb' : ¬ (40 : Int) < (n : Int) := by omega
  go_upto_region 7 with fail
  obtain ⟨b2, f6, f7⟩ := boxes_two w1 #[.map none] #[.map none] 32
  generalize hw2 : World.alloc _ _ = w2
  rw [hw2] at b2 f6 f7
  obtain ⟨g6, hg6⟩ : ∃ g6, g6 = w1.heap.size := ⟨_, rfl⟩
  have GW : Hid (w.heap.size ≤ g6) := by show _ ≤ _; rw [hg6]; exact B1.out.size
  rw [← hg6] at f6 f7 ⊢
  obtain ⟨g7, hg7⟩ : ∃ g7, g7 = g6 + 1 := ⟨_, rfl⟩
  have GW7 : Hid (w.heap.size ≤ g7) := by show _ ≤ _; have := GW.out; omega
  have G67 : Hid (g6 ≠ g7) := by show _ ≠ _; omega
  rw [← hg7] at f7 ⊢
  have TS0 : Hid (TwoS w2 g6 none [] g7 none []) := ⟨⟨f6, rfl⟩, ⟨f7, rfl⟩, G67.out, (fun e => by cases e), (fun e => by cases e), (fun q e => by cases e)⟩
  have B2 := Lib.hid (B1.out.trans (b2.mono B1.out.size))
  have n40 : n ≤ 40 := by omega
  have n0 : 0 < n := by omega
  clear b2 f6 f7 hw2 hg6 hg7 hb' hz hz' hbig h0
  go_wp2_with fail
  go_loopw [8] (fun vi wr => BkInvC l n g6 g7 w vi wr) (fun vi _ => n - (intOf vi).toNat)
  case atStart => exact ⟨0, none, none, by omega, rfl, TS0.out, (fun q e => by cases e), (fun q e => by cases e), B2.out⟩
  case round =>
    clear TS0 B2
    obtain ⟨k, m6, m7, hkn, rfl, hts, hm6, hm7, hb⟩ := hrel
    have TS := Lib.hid hts
    have H6 := Lib.hid hm6
    have H7 := Lib.hid hm7
    have BB := Lib.hid hb
    clear hts hm6 hm7 hb
    by_cases hlt : k < n
    · skip
      obtain ⟨b, o, rfl, hg⟩ := HL.out.get (by omega)
      have hkl : k < l.length := by rw [← N.out]; exact hlt
      obtain ⟨j, hj⟩ : ∃ j, j = n - 1 - k := ⟨_, rfl⟩
      have hjn : j < n := by omega
      have hjl : j < l.length := by rw [← N.out]; exact hjn
      obtain ⟨x, hx⟩ : ∃ x, l[k]? = some x := ⟨_, List.getElem?_eq_getElem hkl⟩
      obtain ⟨y, hy⟩ : ∃ y, l[j]? = some y := ⟨_, List.getElem?_eq_getElem hjl⟩
      have ox := OK.out x (List.mem_of_getElem? hx)
      have Rx := Lib.hid (hg k (spL x) (by rw [List.getElem?_map, hx]; rfl))
      have Ox := Lib.hid ox
      have Lx : Hid ((spL x).length = 68) := spL_length ox
      have Zx : Hid ((spL x).toArray.size = 68) := spL_size ox
      have Dx : Hid (l.getD k spZ = x) := by show _ = _; rw [List.getD_eq_getElem?_getD, hx]; rfl
      have Ix : Hid (k ≤ 4294967295) := by show _ ≤ _; omega
      have Kx : Hid (Value.int .u32 ((k : Int) % 4294967296) = .int .u32 (k : Int)) := congrArg (Value.int .u32) (by omega)
      obtain ⟨vx, hvx⟩ : ∃ vx, vx = x.coin.val := ⟨_, rfl⟩
      have Vx := Lib.hid hvx
      have Ex : Hid (Value.int .u64 ((vx : Int) % 2100000000000001) = .int .u64 ((topM vx : Nat) : Int)) := congrArg (Value.int .u64) (by unfold topM; omega)
      have oy := OK.out y (List.mem_of_getElem? hy)
      have Ry := Lib.hid (hg j (spL y) (by rw [List.getElem?_map, hy]; rfl))
      have Oy := Lib.hid oy
      have Ly : Hid ((spL y).length = 68) := spL_length oy
      have Zy : Hid ((spL y).toArray.size = 68) := spL_size oy
      have Dy : Hid (l.getD j spZ = y) := by show _ = _; rw [List.getD_eq_getElem?_getD, hy]; rfl
      have Iy : Hid (j ≤ 4294967295) := by show _ ≤ _; omega
      have Ky : Hid (Value.int .u32 ((j : Int) % 4294967296) = .int .u32 (j : Int)) := congrArg (Value.int .u32) (by omega)
      obtain ⟨vy, hvy⟩ : ∃ vy, vy = y.coin.val := ⟨_, rfl⟩
      have Vy := Lib.hid hvy
      have Ey : Hid (Value.int .u64 ((vy : Int) % 2100000000000001) = .int .u64 ((topM vy : Nat) : Int)) := congrArg (Value.int .u64) (by unfold topM; omega)
      have SZ : Hid (wr.heap.size ≤ wr.heap.size) := Nat.le_refl _
      have NEW : Hid (∀ x, wr.heap.size ≤ x → (x ≠ g6 ∧ m6 ≠ some x) ∧ (x ≠ g7 ∧ m7 ≠ some x)) := fun x hx => ⟨⟨by have := (Array.getElem?_eq_some_iff.1 TS.out.l.box).1; omega, fun e => by have := TS.out.l.map.lt x e; omega⟩, ⟨by have := (Array.getElem?_eq_some_iff.1 TS.out.r.box).1; omega, fun e => by have := TS.out.r.map.lt x e; omega⟩⟩
      have p0 : 0 ≤ (k : Int) := by omega
      have q0 : (k : Int) < (n : Int) := by omega
      have j0 : 0 ≤ (j : Int) := by omega
      have j1 : (j : Int) < (n : Int) := by omega
      have jj : (n : Int) - 1 - (k : Int) = (j : Int) := by omega
      have JK := Lib.hid hj
      clear hg hx hy ox oy hkl hjl hvx hvy hj hjn
      go_upto_region 11 with ((with_reducible show wpList _ _ _ _ _ _); first | (refine wpList_load_mid rfl 45 (.tmp 41) rfl b (o + k * 68) rfl (spL x) _ (Lib.hid (range_below Rx.out BB.out)).out Tryd.underlying45 rfl (by rw [Lx.out]; kernel_rfl) ?_; go_frame) | (refine wpList_store_row rfl 45 (.tmp 9) (.tmp 42) rfl wr.heap.size (spL x).toArray rfl rfl 45 _ (heap_alloc_new _ _) (by rw [Zx.out]; kernel_rfl) (by rw [Zx.out]; rfl) (spL_all _) ?_; go_frame))
      obtain ⟨_, f2, f3, f4⟩ := fill_setup (Below.refl wr.heap.size wr) (spL ⟨⟨List.replicate 32 0, 0⟩, mnZ⟩).toArray (spL x).toArray 45
      generalize hqwa1 : World.setRow _ _ _ = wa1
      have ewa1 : World.setRow (wr.alloc (.cells (spL ⟨⟨List.replicate 32 0, 0⟩, mnZ⟩).toArray 45)) wr.heap.size (spL x).toArray = wa1 := hqwa1
      rw [ewa1] at f2 f3 f4
      obtain ⟨g9, hg9⟩ : ∃ g9, g9 = wr.heap.size := ⟨_, rfl⟩
      rw [← hg9] at f2 ⊢
      have Lg9 : Hid (wr.heap.size ≤ g9) := by show _ ≤ _; rw [hg9]; exact SZ.out
      have Wg9 : Hid (w.heap.size ≤ g9) := by show _ ≤ _; rw [hg9]; exact BB.out.size
      have Fg9 := Lib.hid f2
      have SZ := Lib.hid (Nat.le_trans SZ.out f4.size)
      have TS := Lib.hid (TS.out.below f4)
      have BB := Lib.hid (BB.out.trans (f4.mono BB.out.size))
      clear f2 f3 f4 hqwa1 ewa1 hg9
      go_upto_region 12 with ((with_reducible show wpList _ _ _ _ _ _); (refine st_spN rfl (.tmp 46) (.tmp 44) rfl rfl k (by first | rfl | exact Kx.out) x Ox.out Fg9.out ?_; intro wa2 q1 q2; have Q1 := Lib.hid q1; have Q2 := Lib.hid q2; clear q1 q2; go_frame))
      have Fg9 := Lib.hid Q1.out
      have TS := Lib.hid (TS.out.far Q2.out (NEW.out g9 Lg9.out))
      have BB := Lib.hid (BB.out.grown Q2.out BB.out.size (fun k hk => by cases hk; exact Wg9.out))
      have SZ := Lib.hid (Nat.le_trans SZ.out Q2.out.size)
      have cv : wa2.cell? ⟨g9, 33, none⟩ = some (.int .u64 (vx : Int)) := by
        have h := mn_val (sp_mn (x := ⟨⟨x.at_.h, k⟩, x.coin⟩) ⟨⟨Ox.out.1.1, Ix.out⟩, Ox.out.2⟩ (range_of_box Fg9.out))
        rw [Nat.zero_add] at h
        rw [h, Vx.out]
      clear Q1 Q2
      go_upto_region 13 with ((with_reducible show wpList _ _ _ _ _ _); (refine st_spV rfl (.tmp 52) (.tmp 50) rfl rfl (topM vx) Ex.out ⟨⟨x.at_.h, k⟩, x.coin⟩ ⟨⟨Ox.out.1.1, Ix.out⟩, Ox.out.2⟩ Fg9.out ?_; intro wa3 q1 q2; have Q1 := Lib.hid q1; have Q2 := Lib.hid q2; clear q1 q2; go_frame))
      have Fg9 : Hid (wa3.heap[g9]? = some (.cells (spL (bkX l k)).toArray 45 (0, 0))) := by
        have h := Q1.out
        have e : bkX l k = ⟨⟨x.at_.h, k⟩, ⟨topM vx, x.coin.lock, x.coin.height, x.coin.base⟩⟩ := by
          unfold bkX mnT
          rw [Dx.out, Vx.out]
        show _ = _
        rw [e]
        exact h
      have TS := Lib.hid (TS.out.far Q2.out (NEW.out g9 Lg9.out))
      have BB := Lib.hid (BB.out.grown Q2.out BB.out.size (fun k hk => by cases hk; exact Wg9.out))
      have SZ := Lib.hid (Nat.le_trans SZ.out Q2.out.size)
      clear Q1 Q2 cv
      go_upto_region 14 with ((with_reducible show wpList _ _ _ _ _ _); first | (refine wpList_load_mid rfl 45 (.tmp 59) rfl b (o + j * 68) rfl (spL y) _ (Lib.hid (range_below Ry.out BB.out)).out Tryd.underlying45 rfl (by rw [Ly.out]; kernel_rfl) ?_; go_frame) | (refine wpList_store_row rfl 45 (.tmp 10) (.tmp 60) rfl wa3.heap.size (spL y).toArray rfl rfl 45 _ (heap_alloc_new _ _) (by rw [Zy.out]; kernel_rfl) (by rw [Zy.out]; rfl) (spL_all _) ?_; go_frame))
      obtain ⟨_, f2, f3, f4⟩ := fill_setup (Below.refl wa3.heap.size wa3) (spL ⟨⟨List.replicate 32 0, 0⟩, mnZ⟩).toArray (spL y).toArray 45
      generalize hqwb1 : World.setRow _ _ _ = wb1
      have ewb1 : World.setRow (wa3.alloc (.cells (spL ⟨⟨List.replicate 32 0, 0⟩, mnZ⟩).toArray 45)) wa3.heap.size (spL y).toArray = wb1 := hqwb1
      rw [ewb1] at f2 f3 f4
      obtain ⟨g10, hg10⟩ : ∃ g10, g10 = wa3.heap.size := ⟨_, rfl⟩
      rw [← hg10] at f2 ⊢
      have Lg10 : Hid (wr.heap.size ≤ g10) := by show _ ≤ _; rw [hg10]; exact SZ.out
      have Wg10 : Hid (w.heap.size ≤ g10) := by show _ ≤ _; rw [hg10]; exact BB.out.size
      have Xg10 : Hid (g9 < g10) := by show _ < _; rw [hg10]; exact (Array.getElem?_eq_some_iff.1 Fg9.out).1
      have Fg10 := Lib.hid f2
      have SZ := Lib.hid (Nat.le_trans SZ.out f4.size)
      have TS := Lib.hid (TS.out.below f4)
      have BB := Lib.hid (BB.out.trans (f4.mono BB.out.size))
      have Fg9 := Lib.hid (row_below Fg9.out f4)
      clear f2 f3 f4 hqwb1 ewb1 hg10
      go_upto_region 15 with ((with_reducible show wpList _ _ _ _ _ _); (refine st_spN rfl (.tmp 68) (.tmp 66) rfl rfl j (by first | rfl | exact Ky.out) y Oy.out Fg10.out ?_; intro wb2 q1 q2; have Q1 := Lib.hid q1; have Q2 := Lib.hid q2; clear q1 q2; go_frame))
      have Fg10 := Lib.hid Q1.out
      have TS := Lib.hid (TS.out.far Q2.out (NEW.out g10 Lg10.out))
      have BB := Lib.hid (BB.out.grown Q2.out BB.out.size (fun k hk => by cases hk; exact Wg10.out))
      have SZ := Lib.hid (Nat.le_trans SZ.out Q2.out.size)
      have Fg9 := Lib.hid (row_far Fg9.out Q2.out (fun e => by have := Option.some.inj e; have := Xg10.out; omega))
      have cv : wb2.cell? ⟨g10, 33, none⟩ = some (.int .u64 (vy : Int)) := by
        have h := mn_val (sp_mn (x := ⟨⟨y.at_.h, j⟩, y.coin⟩) ⟨⟨Oy.out.1.1, Iy.out⟩, Oy.out.2⟩ (range_of_box Fg10.out))
        rw [Nat.zero_add] at h
        rw [h, Vy.out]
      clear Q1 Q2
      go_upto_region 16 with ((with_reducible show wpList _ _ _ _ _ _); (refine st_spV rfl (.tmp 74) (.tmp 72) rfl rfl (topM vy) Ey.out ⟨⟨y.at_.h, j⟩, y.coin⟩ ⟨⟨Oy.out.1.1, Iy.out⟩, Oy.out.2⟩ Fg10.out ?_; intro wb3 q1 q2; have Q1 := Lib.hid q1; have Q2 := Lib.hid q2; clear q1 q2; go_frame))
      have Fg10 : Hid (wb3.heap[g10]? = some (.cells (spL (bkX l j)).toArray 45 (0, 0))) := by
        have h := Q1.out
        have e : bkX l j = ⟨⟨y.at_.h, j⟩, ⟨topM vy, y.coin.lock, y.coin.height, y.coin.base⟩⟩ := by
          unfold bkX mnT
          rw [Dy.out, Vy.out]
        show _ = _
        rw [e]
        exact h
      have TS := Lib.hid (TS.out.far Q2.out (NEW.out g10 Lg10.out))
      have BB := Lib.hid (BB.out.grown Q2.out BB.out.size (fun k hk => by cases hk; exact Wg10.out))
      have SZ := Lib.hid (Nat.le_trans SZ.out Q2.out.size)
      have Fg9 := Lib.hid (row_far Fg9.out Q2.out (fun e => by have := Option.some.inj e; have := Xg10.out; omega))
      clear Q1 Q2 cv
      have OX1 : Hid (SpOk (bkX l k)) := bkX_ok OK.out Ix.out
      have A1 := setadd_any E wb3 g6 m6 _ (bkX l k).at_ (bkX l k).coin (EC.of (HE.out.below BB.out)) TS.out.l OX1.out.1 OX1.out.2
      rw [addR_fits (k := (bkX l k).coin) (topM_le _) (bkS_none l (Nat.le_refl _)), addL_fits (k := (bkX l k).coin) (topM_le _) (bkS_none l (Nat.le_refl _)), show errV E 0 = .nilIface from rfl] at A1
      have A1 := Lib.hid A1
      have P1 : Hid (wb3.rangeAt g9 0 (ptC (bkX l k).at_)) := sp_pt (range_of_box Fg9.out)
      have M1 : Hid (wb3.rangeAt g9 33 (mnL (bkX l k).coin)) := by
        have h := sp_mn OX1.out (range_of_box Fg9.out)
        rw [Nat.zero_add] at h
        exact h
      have LP1 : Hid ((ptC (bkX l k).at_).length = 33) := ptC_length OX1.out.1
      have LM1 : Hid ((mnL (bkX l k).coin).length = 35) := mnL_length OX1.out.2
      go_wp2_with ((with_reducible show wpList _ _ _ _ _ _); first | (refine wpList_load_mid rfl 27 (.tmp 75) rfl g9 0 rfl (ptC (bkX l k).at_) _ P1.out Tryd.underlying27 rfl (by rw [LP1.out]; kernel_rfl) ?_; go_frame) | (refine wpList_load_mid rfl 39 (.tmp 77) rfl g9 33 rfl (mnL (bkX l k).coin) _ M1.out Tryd.underlying39 rfl (by rw [LM1.out]; kernel_rfl) ?_; go_frame))
      refine A1.out.mono ?_
      rintro e wc ⟨rfl, m6', s1, h1, k1⟩
      have S1 : Hid (SetAt wc g6 m6' (bkS l (k + 1))) := by
        show SetAt _ _ _ _
        rw [bkS_succ]
        exact s1
      have Fg10 : Hid (wc.heap[g10]? = _) := (k1.block g10 (Array.getElem?_eq_some_iff.1 Fg10.out).1 (NEW.out g10 Lg10.out).1).trans Fg10.out
      have TS := Lib.hid (TS.out.left k1 S1.out h1)
      have BB' := Lib.hid (Below.set BB.out k1 GW.out H6.out BB.out.size)
      have H6 := Lib.hid (HiM.add H6.out BB.out.size h1)
      have BB := Lib.hid BB'.out
      clear BB' S1 s1 h1 k1 A1 P1 M1
      have OX2 : Hid (SpOk (bkX l j)) := bkX_ok OK.out Iy.out
      have A2 := setadd_any E wc g7 m7 _ (bkX l j).at_ (bkX l j).coin (EC.of (HE.out.below BB.out)) TS.out.r OX2.out.1 OX2.out.2
      rw [addR_fits (k := (bkX l j).coin) (topM_le _) (by rw [JK.out]; exact bkT_none l hlt), addL_fits (k := (bkX l j).coin) (topM_le _) (by rw [JK.out]; exact bkT_none l hlt), show errV E 0 = .nilIface from rfl] at A2
      have A2 := Lib.hid A2
      have P2 : Hid (wc.rangeAt g10 0 (ptC (bkX l j).at_)) := sp_pt (range_of_box Fg10.out)
      have M2 : Hid (wc.rangeAt g10 33 (mnL (bkX l j).coin)) := by
        have h := sp_mn OX2.out (range_of_box Fg10.out)
        rw [Nat.zero_add] at h
        exact h
      have LP2 : Hid ((ptC (bkX l j).at_).length = 33) := ptC_length OX2.out.1
      have LM2 : Hid ((mnL (bkX l j).coin).length = 35) := mnL_length OX2.out.2
      go_wp2_with ((with_reducible show wpList _ _ _ _ _ _); first | (refine wpList_load_midG 27 (.tmp 82) rfl g10 0 rfl (ptC (bkX l j).at_) _ P2.out Tryd.underlying27 rfl (by rw [LP2.out]; kernel_rfl) rfl ?_; go_frame) | (refine wpList_load_midG 39 (.tmp 84) rfl g10 33 rfl (mnL (bkX l j).coin) _ M2.out Tryd.underlying39 rfl (by rw [LM2.out]; kernel_rfl) rfl ?_; go_frame))
      refine A2.out.mono ?_
      rintro e wd ⟨rfl, m7', s2, h2, k2⟩
      have S2 : Hid (SetAt wd g7 m7' (bkT l n (k + 1))) := by
        show SetAt _ _ _ _
        rw [bkT_succ, ← JK.out]
        exact s2
      have TS := Lib.hid (TS.out.right k2 S2.out h2)
      have BB' := Lib.hid (Below.set BB.out k2 GW7.out H7.out BB.out.size)
      have H7 := Lib.hid (HiM.add H7.out BB.out.size h2)
      have BB := Lib.hid BB'.out
      clear BB' S2 s2 h2 k2 A2 P2 M2
      go_wp2_with fail
      go_roundw
      case rel => exact ⟨k + 1, m6', m7', by omega, by go_num, TS.out, H6.out, H7.out, BB.out⟩
      case measure => simp [intOf]; omega
    · skip
      have hge : ¬ (k : Int) < (n : Int) := by omega
      have hke : k = n := by omega
      rw [hke] at TS
      have OS : Hid (∀ x ∈ bkS l n, SpOk x) := TS.out.l.map.ok
      obtain ⟨L, hL1, hL2⟩ := ex_sorted (bkS l n) OS.out TS.out.l.map.apart
      have LP := Lib.hid hL1
      have LS := Lib.hid hL2
      have LT : Hid (L.Perm (bkT l n n)) := LP.out.trans (bk_perm l n).symm
      have OL : Hid (∀ x ∈ L, SpOk x) := fun x hx => OS.out x (LP.out.mem_iff.1 hx)
      have LL : Hid (L.length = n) := by show _ = _; rw [LP.out.length_eq, bkS_length]
      have NS : Hid ((bkS l n).length ≤ 1048576) := by show _ ≤ _; rw [bkS_length]; omega
      have NT : Hid ((bkT l n n).length ≤ 1048576) := by show _ ≤ _; rw [bkT_length]; omega
      have NL : Hid (L.length ≤ 1048576) := by show _ ≤ _; rw [LL.out]; omega
      obtain ⟨sl, hsl⟩ : ∃ sl, sl = sha (bytesC L) := ⟨_, rfl⟩
      have SL := Lib.hid hsl
      have SN : Hid (sl.length = 32) := by show _ = _; rw [hsl]; exact sha_length _
      clear hL1 hL2 hsl hlt hkn
      go_wp2_with fail
      refine (setsum_srt wr g6 m6 _ L TS.out.l NS.out (HK.out.below BB.out) LP.out LS.out sl SL.out).mono ?_
      rintro e w3 ⟨rfl, b3⟩
      have TS := Lib.hid (TS.out.below b3)
      have BB := Lib.hid (BB.out.trans (b3.mono BB.out.size))
      clear b3
      go_wp2_with fail
      refine (setsum_srt w3 g7 m7 _ L TS.out.r NT.out (HK.out.below BB.out) LT.out LS.out sl SL.out).mono ?_
      rintro e w4 ⟨rfl, b4⟩
      have TS := Lib.hid (TS.out.below b4)
      have BB := Lib.hid (BB.out.trans (b4.mono BB.out.size))
      clear b4
      go_wp2_with fail
      refine (same_true sl sl rfl SN.out _).mono ?_
      rintro e w5 ⟨rfl, b5⟩
      have TS := Lib.hid (TS.out.below b5)
      have BB := Lib.hid (BB.out.trans (b5.mono BB.out.size))
      clear b5
      go_wp2_with fail
      refine (setall_srt w5 g6 m6 _ L TS.out.l NS.out LP.out LS.out).mono ?_
      rintro e w6 ⟨v6, rfl, p6, b6⟩
      have P6 := Lib.hid p6
      have TS := Lib.hid (TS.out.below b6)
      have BB := Lib.hid (BB.out.trans (b6.mono BB.out.size))
      clear b6 p6
      go_wp2_with fail
      refine (setall_srt w6 g7 m7 _ L TS.out.r NT.out LT.out LS.out).mono ?_
      rintro e w7 ⟨v7, rfl, p7, b7⟩
      have P7 := Lib.hid p7
      have P6 := Lib.hid (P6.out.below b7)
      have TS := Lib.hid (TS.out.below b7)
      have BB := Lib.hid (BB.out.trans (b7.mono BB.out.size))
      clear b7 p7
      go_wp2_with fail
      refine (samesps_true L OL.out v6 v7 w7 P6.out P7.out NL.out).mono ?_
      rintro e w8 ⟨rfl, b8⟩
      have TS := Lib.hid (TS.out.below b8)
      have BB := Lib.hid (BB.out.trans (b8.mono BB.out.size))
      clear b8 P6 P7
      obtain ⟨r, hr, hrn⟩ := numb_nat x1 n n0
      have NB : Hid (∀ W, Calls Tryd.prog 10 #[.int .i64 x1, .int .i64 (n : Int)] W fun e w' => e = .returned (.int .i64 (r : Int)) ∧ W = w') := fun W => by rw [← hr]; exact numb_any x1 n (by omega) (by omega) HX.out W
      obtain ⟨b, o, rfl, hg⟩ := HL.out.get (by omega)
      have hrl : r < l.length := by rw [← N.out]; exact hrn
      obtain ⟨z, hx⟩ : ∃ z, l[r]? = some z := ⟨_, List.getElem?_eq_getElem hrl⟩
      have oz := OK.out z (List.mem_of_getElem? hx)
      have Rz := Lib.hid (hg r (spL z) (by rw [List.getElem?_map, hx]; rfl))
      have Oz := Lib.hid oz
      have Dz : Hid (l.getD r spZ = z) := by show _ = _; rw [List.getD_eq_getElem?_getD, hx]; rfl
      have Lp : Hid ((ptC z.at_).length = 33) := ptC_length oz.1
      have Zp : Hid ((ptC z.at_).toArray.size = 33) := ptC_size oz.1
      have Lm : Hid ((mnL z.coin).length = 35) := mnL_length oz.2
      have Zm : Hid ((mnL z.coin).toArray.size = 35) := mnL_size oz.2
      have Ir : Hid (r ≤ 4294967295) := by show _ ≤ _; omega
      have Kr : Hid (Value.int .u32 ((r : Int) % 4294967296) = .int .u32 (r : Int)) := congrArg (Value.int .u32) (by omega)
      obtain ⟨vz, hvz⟩ : ∃ vz, vz = z.coin.val := ⟨_, rfl⟩
      have Vz := Lib.hid hvz
      have Ez : Hid (Value.int .u64 ((vz : Int) % 2100000000000001) = .int .u64 ((topM vz : Nat) : Int)) := congrArg (Value.int .u64) (by unfold topM; omega)
      have RP : Hid (∀ W, Below w.heap.size w W → W.rangeAt b (o + r * 68) (ptC z.at_)) := fun W hW => sp_pt (range_below Rz.out hW)
      have RM : Hid (∀ W, Below w.heap.size w W → W.rangeAt b (o + r * 68 + 33) (mnL z.coin)) := fun W hW => sp_mn Oz.out (range_below Rz.out hW)
      obtain ⟨p, hp⟩ : ∃ p, p = (bkX l r).at_ := ⟨_, rfl⟩
      obtain ⟨c, hc⟩ : ∃ c, c = (bkX l r).coin := ⟨_, rfl⟩
      have XB : Hid (bkX l r = ⟨p, c⟩) := by show _ = _; rw [hp, hc]
      have PE : Hid (p = ⟨z.at_.h, r⟩) := by show _ = _; rw [hp]; unfold bkX; rw [Dz.out]
      have CE : Hid (c = ⟨topM vz, z.coin.lock, z.coin.height, z.coin.base⟩) := by show _ = _; rw [hc]; unfold bkX mnT; rw [Dz.out, hvz]
      have OX := bkX_ok OK.out Ir.out
      rw [XB.out] at OX
      have PO : Hid (PtOk p) := OX.1
      have CO : Hid (MnOk c) := OX.2
      have CV : Hid (c.val ≤ 2100000000000000) := by show _ ≤ _; rw [CE.out]; exact topM_le _
      have SG := bkS_get l hrn
      rw [XB.out] at SG
      have GS : Hid (getC (bkS l n) p = some c) := getC_some (x := ⟨p, c⟩) TS.out.l.map.apart SG rfl
      have DN : Hid (getC (delC (bkS l n) p) p = none) := del_none _ _
      have DL : Hid ((delC (bkS l n) p).length + 1 = n) := by
        have h := del_length (x := ⟨p, c⟩) TS.out.l.map.apart SG rfl
        rw [bkS_length] at h
        exact h
      have DP : Hid ((delC (bkS l n) p ++ [(⟨p, c⟩ : TSp)]).Perm (bkS l n)) := del_perm (x := ⟨p, c⟩) TS.out.l.map.apart SG rfl
      have PS : Hid ((ptC p).length = 33) := ptC_length PO.out
      have CS : Hid ((mnL c).length = 35) := mnL_length CO.out
      have CZ : Hid ((mnL c).toArray.size = 35) := mnL_size CO.out
      have SZ : Hid (w8.heap.size ≤ w8.heap.size) := Nat.le_refl _
      have NEW : Hid (∀ x, w8.heap.size ≤ x → (x ≠ g6 ∧ m6 ≠ some x) ∧ (x ≠ g7 ∧ m7 ≠ some x)) := fun x hx => ⟨⟨by have := (Array.getElem?_eq_some_iff.1 TS.out.l.box).1; omega, fun e => by have := TS.out.l.map.lt x e; omega⟩, ⟨by have := (Array.getElem?_eq_some_iff.1 TS.out.r.box).1; omega, fun e => by have := TS.out.r.map.lt x e; omega⟩⟩
      have p0 : 0 ≤ (r : Int) := by omega
      have q0 : (r : Int) < (n : Int) := by omega
      obtain ⟨q, hq⟩ : ∃ q, q = n - 1 := ⟨_, rfl⟩
      have qq : (n : Int) - 1 = (q : Int) := by omega
      have DQ : Hid ((q : Int) = ((delC (bkS l n) p).length : Int)) := by have := DL.out; show _ = _; omega
      clear hr hg hx oz hrl hvz hp hc OX SG hrn hq qq
      go_wp2_with fail
      refine (NB.out _).mono ?_
      rintro e w9 ⟨rfl, hw9⟩
      obtain rfl := hw9
      go_upto_region 22 with ((with_reducible show wpList _ _ _ _ _ _); first | (refine wpList_load_mid rfl 27 (.tmp 106) rfl b (o + r * 68) rfl (ptC z.at_) _ (Lib.hid (RP.out _ BB.out)).out Tryd.underlying27 rfl (by rw [Lp.out]; kernel_rfl) ?_; go_frame) | (refine wpList_store_row rfl 27 (.tmp 11) (.tmp 107) rfl w8.heap.size (ptC z.at_).toArray rfl rfl 27 _ (heap_alloc_new _ _) (by rw [Zp.out]; kernel_rfl) (by rw [Zp.out]; rfl) (ptC_all _) ?_; go_frame))
      obtain ⟨_, f2, f3, f4⟩ := fill_setup (Below.refl w8.heap.size w8) (ptC ptZ).toArray (ptC z.at_).toArray 27
      generalize hqy1 : World.setRow _ _ _ = y1
      have ey1 : World.setRow (w8.alloc (.cells (ptC ptZ).toArray 27)) w8.heap.size (ptC z.at_).toArray = y1 := hqy1
      rw [ey1] at f2 f3 f4
      obtain ⟨g11, hg11⟩ : ∃ g11, g11 = w8.heap.size := ⟨_, rfl⟩
      rw [← hg11] at f2 ⊢
      have Lg11 : Hid (w8.heap.size ≤ g11) := by show _ ≤ _; rw [hg11]; exact SZ.out
      have Wg11 : Hid (w.heap.size ≤ g11) := by show _ ≤ _; rw [hg11]; exact BB.out.size
      have Fg11 := Lib.hid f2
      have SZ := Lib.hid (Nat.le_trans SZ.out f4.size)
      have TS := Lib.hid (TS.out.below f4)
      have BB := Lib.hid (BB.out.trans (f4.mono BB.out.size))
      clear f2 f3 f4 hqy1 ey1 hg11
      go_upto_region 23 with ((with_reducible show wpList _ _ _ _ _ _); (refine st_ptN rfl (.tmp 110) (.tmp 109) rfl rfl r (by first | rfl | exact Kr.out) z.at_ Oz.out.1 Fg11.out ?_; intro y2 q1 q2; have Q1 := Lib.hid q1; have Q2 := Lib.hid q2; clear q1 q2; go_frame))
      have Fg11 : Hid (y2.heap[g11]? = some (.cells (ptC p).toArray 27 (0, 0))) := by show _ = _; rw [PE.out]; exact Q1.out
      have TS := Lib.hid (TS.out.far Q2.out (NEW.out g11 Lg11.out))
      have BB := Lib.hid (BB.out.grown Q2.out BB.out.size (fun k hk => by cases hk; exact Wg11.out))
      have SZ := Lib.hid (Nat.le_trans SZ.out Q2.out.size)
      clear Q1 Q2
      go_upto_region 24 with ((with_reducible show wpList _ _ _ _ _ _); first | (refine wpList_load_mid rfl 39 (.tmp 114) rfl b (o + r * 68 + 33) rfl (mnL z.coin) _ (Lib.hid (RM.out _ BB.out)).out Tryd.underlying39 rfl (by rw [Lm.out]; kernel_rfl) ?_; go_frame) | (refine wpList_store_row rfl 39 (.tmp 12) (.tmp 115) rfl y2.heap.size (mnL z.coin).toArray rfl rfl 39 _ (heap_alloc_new _ _) (by rw [Zm.out]; kernel_rfl) (by rw [Zm.out]; rfl) (mnL_all _) ?_; go_frame))
      obtain ⟨_, f2, f3, f4⟩ := fill_setup (Below.refl y2.heap.size y2) (mnL mnZ).toArray (mnL z.coin).toArray 39
      generalize hqy3 : World.setRow _ _ _ = y3
      have ey3 : World.setRow (y2.alloc (.cells (mnL mnZ).toArray 39)) y2.heap.size (mnL z.coin).toArray = y3 := hqy3
      rw [ey3] at f2 f3 f4
      obtain ⟨g12, hg12⟩ : ∃ g12, g12 = y2.heap.size := ⟨_, rfl⟩
      rw [← hg12] at f2 ⊢
      have Lg12 : Hid (w8.heap.size ≤ g12) := by show _ ≤ _; rw [hg12]; exact SZ.out
      have Wg12 : Hid (w.heap.size ≤ g12) := by show _ ≤ _; rw [hg12]; exact BB.out.size
      have Xg12 : Hid (g11 < g12) := by show _ < _; rw [hg12]; exact (Array.getElem?_eq_some_iff.1 Fg11.out).1
      have Fg12 := Lib.hid f2
      have SZ := Lib.hid (Nat.le_trans SZ.out f4.size)
      have TS := Lib.hid (TS.out.below f4)
      have BB := Lib.hid (BB.out.trans (f4.mono BB.out.size))
      have Fg11 := Lib.hid (row_below Fg11.out f4)
      clear f2 f3 f4 hqy3 ey3 hg12
      have cv : y3.cell? ⟨g12, 0, none⟩ = some (.int .u64 (vz : Int)) := by
        have h := mn_val (range_of_box Fg12.out)
        rw [h, Vz.out]
      go_upto_region 25 with ((with_reducible show wpList _ _ _ _ _ _); (refine st_mnV rfl (.tmp 119) (.tmp 118) rfl rfl (topM vz) Ez.out z.coin Fg12.out ?_; intro y4 q1 q2; have Q1 := Lib.hid q1; have Q2 := Lib.hid q2; clear q1 q2; go_frame))
      have Fg12 : Hid (y4.heap[g12]? = some (.cells (mnL c).toArray 39 (0, 0))) := by show _ = _; rw [CE.out]; exact Q1.out
      have TS := Lib.hid (TS.out.far Q2.out (NEW.out g12 Lg12.out))
      have BB := Lib.hid (BB.out.grown Q2.out BB.out.size (fun k hk => by cases hk; exact Wg12.out))
      have SZ := Lib.hid (Nat.le_trans SZ.out Q2.out.size)
      have Fg11 := Lib.hid (row_far Fg11.out Q2.out (fun e => by have := Option.some.inj e; have := Xg12.out; omega))
      clear Q1 Q2 cv
      have GG : Hid (∀ W, SetAt W g6 m6 (bkS l n) → Calls Tryd.prog 17 #[.pointer (some ⟨g6, 0, none⟩), .agg (ptC p).toArray] W fun e w' => e = .returned (.tuple #[.agg (mnL c).toArray, .bool true]) ∧ Below W.heap.size W w') := fun W hW => by
        have h := setget_any W g6 m6 _ p hW PO.out
        rw [GS.out] at h
        exact h
      have GN : Hid (∀ W, SetAt W g6 m6 (delC (bkS l n) p) → Calls Tryd.prog 17 #[.pointer (some ⟨g6, 0, none⟩), .agg (ptC p).toArray] W fun e w' => e = .returned (.tuple #[.agg (mnL mnZ).toArray, .bool false]) ∧ Below W.heap.size W w') := fun W hW => by
        have h := setget_any W g6 m6 _ p hW PO.out
        rw [DN.out] at h
        exact h
      have SG : Hid (∀ W, EC W E → SetAt W g6 m6 (bkS l n) → Calls Tryd.prog 14 #[.pointer (some ⟨g6, 0, none⟩), .agg (ptC p).toArray] W fun e w' => e = .returned (.tuple #[.agg (mnL c).toArray, .nilIface]) ∧ SetAt w' g6 m6 (delC (bkS l n) p) ∧ Kps (fun k => m6 ≠ some k) W w') := fun W hE hW => by
        have h := setspend_any E W g6 m6 _ p hE hW PO.out
        rw [GS.out] at h
        exact h
      have SM : Hid (∀ W, EC W E → SetAt W g6 m6 (delC (bkS l n) p) → Calls Tryd.prog 14 #[.pointer (some ⟨g6, 0, none⟩), .agg (ptC p).toArray] W fun e w' => e = .returned (.tuple #[.agg (mnL mnZ).toArray, errV E 13]) ∧ SetAt w' g6 m6 (delC (bkS l n) p) ∧ Kps (fun k => m6 ≠ some k) W w') := fun W hE hW => by
        have h := setspend_any E W g6 m6 _ p hE hW PO.out
        rw [DN.out, delC_none DN.out] at h
        exact h
      have ZC : Hid ((mnL mnZ).toArray.size = 35) := rfl
      go_wp2_with ((with_reducible show wpList _ _ _ _ _ _); (refine wpList_load_mid rfl 27 (.tmp 11) rfl g11 0 rfl (ptC p) _ (Lib.hid (range_of_box Fg11.out)).out Tryd.underlying27 rfl (by rw [PS.out]; kernel_rfl) ?_; go_frame))
      refine (GG.out _ TS.out.l).mono ?_
      rintro e y5 ⟨rfl, b5⟩
      have TS := Lib.hid (TS.out.below b5)
      have BB := Lib.hid (BB.out.trans (b5.mono BB.out.size))
      have Fg11 := Lib.hid (row_below Fg11.out b5)
      have Fg12 := Lib.hid (row_below Fg12.out b5)
      have SZ := Lib.hid (Nat.le_trans SZ.out b5.size)
      clear b5
      go_upto_region 26 with ((with_reducible show wpList _ _ _ _ _ _); (refine wpList_store_row rfl 39 (.tmp 13) (.tmp 123) rfl y5.heap.size (mnL c).toArray rfl rfl 39 _ (heap_alloc_new _ _) (by rw [CZ.out]; kernel_rfl) (by rw [CZ.out]; rfl) (mnL_all _) ?_; go_frame))
      obtain ⟨_, f2, f3, f4⟩ := fill_setup (Below.refl y5.heap.size y5) (mnL mnZ).toArray (mnL c).toArray 39
      generalize hqy6 : World.setRow _ _ _ = y6
      have ey6 : World.setRow (y5.alloc (.cells (mnL mnZ).toArray 39)) y5.heap.size (mnL c).toArray = y6 := hqy6
      rw [ey6] at f2 f3 f4
      obtain ⟨g13, hg13⟩ : ∃ g13, g13 = y5.heap.size := ⟨_, rfl⟩
      rw [← hg13] at f2 ⊢
      have Lg13 : Hid (w8.heap.size ≤ g13) := by show _ ≤ _; rw [hg13]; exact SZ.out
      have Wg13 : Hid (w.heap.size ≤ g13) := by show _ ≤ _; rw [hg13]; exact BB.out.size
      have Xg13 : Hid (g11 < g13) := by show _ < _; rw [hg13]; exact (Array.getElem?_eq_some_iff.1 Fg11.out).1
      have Xg13 : Hid (g12 < g13) := by show _ < _; rw [hg13]; exact (Array.getElem?_eq_some_iff.1 Fg12.out).1
      have Fg13 := Lib.hid f2
      have SZ := Lib.hid (Nat.le_trans SZ.out f4.size)
      have TS := Lib.hid (TS.out.below f4)
      have BB := Lib.hid (BB.out.trans (f4.mono BB.out.size))
      have Fg11 := Lib.hid (row_below Fg11.out f4)
      have Fg12 := Lib.hid (row_below Fg12.out f4)
      clear f2 f3 f4 hqy6 ey6 hg13
      go_wp2_with ((with_reducible show wpList _ _ _ _ _ _); (refine wpList_load_mid rfl 27 (.tmp 11) rfl g11 0 rfl (ptC p) _ (Lib.hid (range_of_box Fg11.out)).out Tryd.underlying27 rfl (by rw [PS.out]; kernel_rfl) ?_; go_frame))
      refine (SG.out _ (EC.of (HE.out.below BB.out)) TS.out.l).mono ?_
      rintro e y7 ⟨rfl, s7, k7⟩
      have KK := k7.mono (G := fun j => j ≠ g6 ∧ m6 ≠ some j) (fun j _ h => h.2)
      have Fg11 : Hid (y7.heap[g11]? = _) := (KK.block g11 (Array.getElem?_eq_some_iff.1 Fg11.out).1 (NEW.out g11 Lg11.out).1).trans Fg11.out
      have Fg12 : Hid (y7.heap[g12]? = _) := (KK.block g12 (Array.getElem?_eq_some_iff.1 Fg12.out).1 (NEW.out g12 Lg12.out).1).trans Fg12.out
      have Fg13 : Hid (y7.heap[g13]? = _) := (KK.block g13 (Array.getElem?_eq_some_iff.1 Fg13.out).1 (NEW.out g13 Lg13.out).1).trans Fg13.out
      have TS := Lib.hid (TS.out.left KK s7 (Or.inl rfl))
      have BB' := Lib.hid (Below.set BB.out KK GW.out H6.out BB.out.size)
      have SZ := Lib.hid (Nat.le_trans SZ.out KK.size)
      have BB := Lib.hid BB'.out
      clear BB' KK s7 k7
      go_upto_region 27 with ((with_reducible show wpList _ _ _ _ _ _); (refine wpList_store_row rfl 39 (.tmp 15) (.tmp 128) rfl y7.heap.size (mnL c).toArray rfl rfl 39 _ (heap_alloc_new _ _) (by rw [CZ.out]; kernel_rfl) (by rw [CZ.out]; rfl) (mnL_all _) ?_; go_frame))
      obtain ⟨_, f2, f3, f4⟩ := fill_setup (Below.refl y7.heap.size y7) (mnL mnZ).toArray (mnL c).toArray 39
      generalize hqy8 : World.setRow _ _ _ = y8
      have ey8 : World.setRow (y7.alloc (.cells (mnL mnZ).toArray 39)) y7.heap.size (mnL c).toArray = y8 := hqy8
      rw [ey8] at f2 f3 f4
      obtain ⟨g15, hg15⟩ : ∃ g15, g15 = y7.heap.size := ⟨_, rfl⟩
      rw [← hg15] at f2 ⊢
      have Lg15 : Hid (w8.heap.size ≤ g15) := by show _ ≤ _; rw [hg15]; exact SZ.out
      have Wg15 : Hid (w.heap.size ≤ g15) := by show _ ≤ _; rw [hg15]; exact BB.out.size
      have Xg15 : Hid (g11 < g15) := by show _ < _; rw [hg15]; exact (Array.getElem?_eq_some_iff.1 Fg11.out).1
      have Xg15 : Hid (g12 < g15) := by show _ < _; rw [hg15]; exact (Array.getElem?_eq_some_iff.1 Fg12.out).1
      have Xg15 : Hid (g13 < g15) := by show _ < _; rw [hg15]; exact (Array.getElem?_eq_some_iff.1 Fg13.out).1
      have Fg15 := Lib.hid f2
      have SZ := Lib.hid (Nat.le_trans SZ.out f4.size)
      have TS := Lib.hid (TS.out.below f4)
      have BB := Lib.hid (BB.out.trans (f4.mono BB.out.size))
      have Fg11 := Lib.hid (row_below Fg11.out f4)
      have Fg12 := Lib.hid (row_below Fg12.out f4)
      have Fg13 := Lib.hid (row_below Fg13.out f4)
      clear f2 f3 f4 hqy8 ey8 hg15
      go_wp2_with ((with_reducible show wpList _ _ _ _ _ _); (refine wpList_load_mid rfl 27 (.tmp 11) rfl g11 0 rfl (ptC p) _ (Lib.hid (range_of_box Fg11.out)).out Tryd.underlying27 rfl (by rw [PS.out]; kernel_rfl) ?_; go_frame))
      refine (GN.out _ TS.out.l).mono ?_
      rintro e y9 ⟨rfl, b9⟩
      have TS := Lib.hid (TS.out.below b9)
      have BB := Lib.hid (BB.out.trans (b9.mono BB.out.size))
      have Fg11 := Lib.hid (row_below Fg11.out b9)
      have Fg12 := Lib.hid (row_below Fg12.out b9)
      have Fg13 := Lib.hid (row_below Fg13.out b9)
      have Fg15 := Lib.hid (row_below Fg15.out b9)
      have SZ := Lib.hid (Nat.le_trans SZ.out b9.size)
      clear b9
      go_upto_region 28 with ((with_reducible show wpList _ _ _ _ _ _); (refine wpList_store_row rfl 39 (.tmp 17) (.tmp 133) rfl y9.heap.size (mnL mnZ).toArray rfl rfl 39 _ (heap_alloc_new _ _) (by rw [ZC.out]; kernel_rfl) (by rw [ZC.out]; rfl) (mnL_all _) ?_; go_frame))
      obtain ⟨_, f2, f3, f4⟩ := fill_setup (Below.refl y9.heap.size y9) (mnL mnZ).toArray (mnL mnZ).toArray 39
      generalize hqya : World.setRow _ _ _ = ya
      have eya : World.setRow (y9.alloc (.cells (mnL mnZ).toArray 39)) y9.heap.size (mnL mnZ).toArray = ya := hqya
      rw [eya] at f2 f3 f4
      obtain ⟨g17, hg17⟩ : ∃ g17, g17 = y9.heap.size := ⟨_, rfl⟩
      rw [← hg17] at f2 ⊢
      have Lg17 : Hid (w8.heap.size ≤ g17) := by show _ ≤ _; rw [hg17]; exact SZ.out
      have Wg17 : Hid (w.heap.size ≤ g17) := by show _ ≤ _; rw [hg17]; exact BB.out.size
      have Xg17 : Hid (g11 < g17) := by show _ < _; rw [hg17]; exact (Array.getElem?_eq_some_iff.1 Fg11.out).1
      have Xg17 : Hid (g12 < g17) := by show _ < _; rw [hg17]; exact (Array.getElem?_eq_some_iff.1 Fg12.out).1
      have Xg17 : Hid (g13 < g17) := by show _ < _; rw [hg17]; exact (Array.getElem?_eq_some_iff.1 Fg13.out).1
      have Xg17 : Hid (g15 < g17) := by show _ < _; rw [hg17]; exact (Array.getElem?_eq_some_iff.1 Fg15.out).1
      have Fg17 := Lib.hid f2
      have SZ := Lib.hid (Nat.le_trans SZ.out f4.size)
      have TS := Lib.hid (TS.out.below f4)
      have BB := Lib.hid (BB.out.trans (f4.mono BB.out.size))
      have Fg11 := Lib.hid (row_below Fg11.out f4)
      have Fg12 := Lib.hid (row_below Fg12.out f4)
      have Fg13 := Lib.hid (row_below Fg13.out f4)
      have Fg15 := Lib.hid (row_below Fg15.out f4)
      clear f2 f3 f4 hqya eya hg17
      go_wp2_with ((with_reducible show wpList _ _ _ _ _ _); (refine wpList_load_mid rfl 27 (.tmp 11) rfl g11 0 rfl (ptC p) _ (Lib.hid (range_of_box Fg11.out)).out Tryd.underlying27 rfl (by rw [PS.out]; kernel_rfl) ?_; go_frame))
      refine (SM.out _ (EC.of (HE.out.below BB.out)) TS.out.l).mono ?_
      rintro e yb ⟨rfl, s11, k11⟩
      have KK := k11.mono (G := fun j => j ≠ g6 ∧ m6 ≠ some j) (fun j _ h => h.2)
      have Fg11 : Hid (yb.heap[g11]? = _) := (KK.block g11 (Array.getElem?_eq_some_iff.1 Fg11.out).1 (NEW.out g11 Lg11.out).1).trans Fg11.out
      have Fg12 : Hid (yb.heap[g12]? = _) := (KK.block g12 (Array.getElem?_eq_some_iff.1 Fg12.out).1 (NEW.out g12 Lg12.out).1).trans Fg12.out
      have Fg13 : Hid (yb.heap[g13]? = _) := (KK.block g13 (Array.getElem?_eq_some_iff.1 Fg13.out).1 (NEW.out g13 Lg13.out).1).trans Fg13.out
      have Fg15 : Hid (yb.heap[g15]? = _) := (KK.block g15 (Array.getElem?_eq_some_iff.1 Fg15.out).1 (NEW.out g15 Lg15.out).1).trans Fg15.out
      have TS := Lib.hid (TS.out.left KK s11 (Or.inl rfl))
      have BB' := Lib.hid (Below.set BB.out KK GW.out H6.out BB.out.size)
      have SZ := Lib.hid (Nat.le_trans SZ.out KK.size)
      have BB := Lib.hid BB'.out
      clear BB' KK s11 k11
      go_upto_region 29 with ((with_reducible show wpList _ _ _ _ _ _); (refine wpList_store_row rfl 39 (.tmp 19) (.tmp 138) rfl yb.heap.size (mnL mnZ).toArray rfl rfl 39 _ (heap_alloc_new _ _) (by rw [ZC.out]; kernel_rfl) (by rw [ZC.out]; rfl) (mnL_all _) ?_; go_frame))
      obtain ⟨_, f2, f3, f4⟩ := fill_setup (Below.refl yb.heap.size yb) (mnL mnZ).toArray (mnL mnZ).toArray 39
      generalize hqyc : World.setRow _ _ _ = yc
      have eyc : World.setRow (yb.alloc (.cells (mnL mnZ).toArray 39)) yb.heap.size (mnL mnZ).toArray = yc := hqyc
      rw [eyc] at f2 f3 f4
      obtain ⟨g19, hg19⟩ : ∃ g19, g19 = yb.heap.size := ⟨_, rfl⟩
      rw [← hg19] at f2 ⊢
      have Lg19 : Hid (w8.heap.size ≤ g19) := by show _ ≤ _; rw [hg19]; exact SZ.out
      have Wg19 : Hid (w.heap.size ≤ g19) := by show _ ≤ _; rw [hg19]; exact BB.out.size
      have Xg19 : Hid (g11 < g19) := by show _ < _; rw [hg19]; exact (Array.getElem?_eq_some_iff.1 Fg11.out).1
      have Xg19 : Hid (g12 < g19) := by show _ < _; rw [hg19]; exact (Array.getElem?_eq_some_iff.1 Fg12.out).1
      have Xg19 : Hid (g13 < g19) := by show _ < _; rw [hg19]; exact (Array.getElem?_eq_some_iff.1 Fg13.out).1
      have Xg19 : Hid (g15 < g19) := by show _ < _; rw [hg19]; exact (Array.getElem?_eq_some_iff.1 Fg15.out).1
      have Fg19 := Lib.hid f2
      have SZ := Lib.hid (Nat.le_trans SZ.out f4.size)
      have TS := Lib.hid (TS.out.below f4)
      have BB := Lib.hid (BB.out.trans (f4.mono BB.out.size))
      have Fg11 := Lib.hid (row_below Fg11.out f4)
      have Fg12 := Lib.hid (row_below Fg12.out f4)
      have Fg13 := Lib.hid (row_below Fg13.out f4)
      have Fg15 := Lib.hid (row_below Fg15.out f4)
      clear f2 f3 f4 hqyc eyc hg19
      obtain ⟨qz, hqz⟩ : ∃ q, q = n - 1 := ⟨_, rfl⟩
      have qq : (n : Int) - 1 = (q : Int) := by have := DQ.out; have := DL.out; omega
      clear hqz
      go_wp2_with ((with_reducible show wpList _ _ _ _ _ _); first | (refine wpList_load_midG 39 (.tmp 13) rfl g13 0 rfl (mnL c) _ (Lib.hid (range_of_box Fg13.out)).out Tryd.underlying39 rfl (by rw [CS.out]; kernel_rfl) rfl ?_; go_frame) | (refine wpList_load_midG 39 (.tmp 12) rfl g12 0 rfl (mnL c) _ (Lib.hid (range_of_box Fg12.out)).out Tryd.underlying39 rfl (by rw [CS.out]; kernel_rfl) rfl ?_; go_frame))
      refine (samemn_true c CO.out _).mono ?_
      rintro e yd ⟨rfl, bd⟩
      have TS := Lib.hid (TS.out.below bd)
      have BB := Lib.hid (BB.out.trans (bd.mono BB.out.size))
      have Fg11 := Lib.hid (row_below Fg11.out bd)
      have Fg12 := Lib.hid (row_below Fg12.out bd)
      have Fg13 := Lib.hid (row_below Fg13.out bd)
      have Fg15 := Lib.hid (row_below Fg15.out bd)
      have SZ := Lib.hid (Nat.le_trans SZ.out bd.size)
      clear bd
      go_wp2_with ((with_reducible show wpList _ _ _ _ _ _); first | (refine wpList_load_midG 39 (.tmp 15) rfl g15 0 rfl (mnL c) _ (Lib.hid (range_of_box Fg15.out)).out Tryd.underlying39 rfl (by rw [CS.out]; kernel_rfl) rfl ?_; go_frame) | (refine wpList_load_midG 39 (.tmp 12) rfl g12 0 rfl (mnL c) _ (Lib.hid (range_of_box Fg12.out)).out Tryd.underlying39 rfl (by rw [CS.out]; kernel_rfl) rfl ?_; go_frame))
      refine (samemn_true c CO.out _).mono ?_
      rintro e ye ⟨rfl, be⟩
      have TS := Lib.hid (TS.out.below be)
      have BB := Lib.hid (BB.out.trans (be.mono BB.out.size))
      have Fg11 := Lib.hid (row_below Fg11.out be)
      have Fg12 := Lib.hid (row_below Fg12.out be)
      have Fg13 := Lib.hid (row_below Fg13.out be)
      have Fg15 := Lib.hid (row_below Fg15.out be)
      have SZ := Lib.hid (Nat.le_trans SZ.out be.size)
      clear be
      go_wp2_with fail
      refine (is_any E 13 113 true (by decide) _ (HE.out.below BB.out) (by omega)).mono ?_
      rintro e yf ⟨rfl, bf⟩
      have TS := Lib.hid (TS.out.below bf)
      have BB := Lib.hid (BB.out.trans (bf.mono BB.out.size))
      have Fg11 := Lib.hid (row_below Fg11.out bf)
      have Fg12 := Lib.hid (row_below Fg12.out bf)
      have Fg13 := Lib.hid (row_below Fg13.out bf)
      have Fg15 := Lib.hid (row_below Fg15.out bf)
      have SZ := Lib.hid (Nat.le_trans SZ.out bf.size)
      clear bf
      go_wp2_with fail
      refine (setlen_k _ g6 m6 _ TS.out.l (q : Int) DQ.out).mono ?_
      rintro e yg ⟨rfl, bg⟩
      have TS := Lib.hid (TS.out.below bg)
      have BB := Lib.hid (BB.out.trans (bg.mono BB.out.size))
      have Fg11 := Lib.hid (row_below Fg11.out bg)
      have Fg12 := Lib.hid (row_below Fg12.out bg)
      have Fg13 := Lib.hid (row_below Fg13.out bg)
      have Fg15 := Lib.hid (row_below Fg15.out bg)
      have SZ := Lib.hid (Nat.le_trans SZ.out bg.size)
      clear bg
      go_wp2_with fail
      refine (setlen_k _ g7 m7 _ TS.out.r (n : Int) (by rw [bkT_length])).mono ?_
      rintro e yh ⟨rfl, bh⟩
      have TS := Lib.hid (TS.out.below bh)
      have BB := Lib.hid (BB.out.trans (bh.mono BB.out.size))
      have Fg11 := Lib.hid (row_below Fg11.out bh)
      have Fg12 := Lib.hid (row_below Fg12.out bh)
      have Fg13 := Lib.hid (row_below Fg13.out bh)
      have Fg15 := Lib.hid (row_below Fg15.out bh)
      have SZ := Lib.hid (Nat.le_trans SZ.out bh.size)
      clear bh
      have AA := setadd_any E yh g6 m6 _ p c (EC.of (HE.out.below BB.out)) TS.out.l PO.out CO.out
      rw [addR_fits CV.out DN.out, addL_fits CV.out DN.out, show errV E 0 = .nilIface from rfl] at AA
      have AA := Lib.hid AA
      go_wp2_with ((with_reducible show wpList _ _ _ _ _ _); first | (refine wpList_load_midG 27 (.tmp 11) rfl g11 0 rfl (ptC p) _ (Lib.hid (range_of_box Fg11.out)).out Tryd.underlying27 rfl (by rw [PS.out]; kernel_rfl) rfl ?_; go_frame) | (refine wpList_load_midG 39 (.tmp 12) rfl g12 0 rfl (mnL c) _ (Lib.hid (range_of_box Fg12.out)).out Tryd.underlying39 rfl (by rw [CS.out]; kernel_rfl) rfl ?_; go_frame))
      refine AA.out.mono ?_
      rintro e yi ⟨rfl, m6', si, hi, ki⟩
      have TS := Lib.hid (TS.out.left ki si hi)
      have BB' := Lib.hid (Below.set BB.out ki GW.out H6.out BB.out.size)
      have BB := Lib.hid BB'.out
      clear BB' si hi ki AA
      have NA : Hid ((delC (bkS l n) p ++ [(⟨p, c⟩ : TSp)]).length ≤ 1048576) := by show _ ≤ _; rw [DP.out.length_eq]; exact NS.out
      go_wp2_with fail
      refine (setsum_srt yi g6 m6' _ L TS.out.l NA.out (HK.out.below BB.out) (LP.out.trans DP.out.symm) LS.out sl SL.out).mono ?_
      rintro e yj ⟨rfl, bj⟩
      have TS := Lib.hid (TS.out.below bj)
      have BB := Lib.hid (BB.out.trans (bj.mono BB.out.size))
      clear bj
      go_wp2_with fail
      refine (setsum_srt yj g7 m7 _ L TS.out.r NT.out (HK.out.below BB.out) LT.out LS.out sl SL.out).mono ?_
      rintro e yk ⟨rfl, bk⟩
      have TS := Lib.hid (TS.out.below bk)
      have BB := Lib.hid (BB.out.trans (bk.mono BB.out.size))
      clear bk
      go_wp2_with fail
      refine (same_true sl sl rfl SN.out _).mono ?_
      rintro e yl ⟨rfl, bl⟩
      have TS := Lib.hid (TS.out.below bl)
      have BB := Lib.hid (BB.out.trans (bl.mono BB.out.size))
      clear bl
      go_wp2_with fail
      go_ret
      exact ⟨by first | rfl | simp, BB.out⟩
end Go.Proofs.YtlmfchcafhidoaaDoor.Sha
