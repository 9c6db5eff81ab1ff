/-
  Texts of this proof joined into one file: CnRefSum, CnLaw, CnPy. What each holds, and under which conditions, its own first sentence tells.
-/
import Derived.Test.YtlmfchcafhidoaaDoorMg09
import Derived.Test.YtlmfchcafhidoaaDoorMg08
import Derived.Test.YtlmfchcafhidoaaDoorMg04
import Derived.Test.YtlmfchcafhidoaaDoorMg12
import Derived.Test.YtlmfchcafhidoaaDoorMg07
import Derived.Test.YtlmfchcafhidoaaDoorMg10
import Derived.Test.YtlmfchcafhidoaaDoorMg05
/-
  The statements' own set: a coin's bytes behind bytes of the caller's; the digest of all coins. Whatever else was there stays, but for the row written to. Conditions: the coins as the model has them, at most 2^20; the row is the caller's own.
-/
namespace Go.Proofs.YtlmfchcafhidoaaDoor.Sha
open Go Go.RowKit
theorem gr_drew8 {w w' : World} {r : Option Nat} (h : w.grownBy w' r) : w.grownBy w'.drew r := ⟨h.os, h.tape, h.output, h.size, h.block⟩
theorem OwnG.keep8 {base : Nat} {r : Option Nat} {w0 w w' : World} {v : Value} {bs : List UInt8} (h : OwnG base r w0 w v bs) (hb : Below w.heap.size w w') : OwnG base r w0 w' v bs :=
  ⟨own_kept h.1 hb, ⟨hb.os.trans h.2.1.os, hb.tape.trans h.2.1.tape, hb.output.trans h.2.1.output, Nat.le_trans h.2.1.size hb.size, fun k hk hne => by
    rw [hb.block k (Nat.lt_of_lt_of_le hk h.2.1.size)]
    exact h.2.1.block k hk hne⟩, h.2.2.1, Nat.le_trans h.2.2.2 hb.size⟩
set_option maxHeartbeats 4000000 in
set_option maxRecDepth 100000 in
theorem rone_any (x : TSp) (hx : SpOk x) (base : Nat) (bs : List UInt8) (v : Value) (w : World) (hb : base ≤ w.heap.size) (hl : bs.length ≤ 70368744170000) (ho : w.ownsRow base 5 1 v bs.length (bs.map bV)) :
    Calls Tryd.prog 38 #[v, .agg (spL x).toArray] w fun e w' => ∃ v', e = .returned v' ∧ OwnG base v.ownBlock w w' v' (bs ++ spB x) := by
  obtain ⟨i0, hi, hz0, hz1, hz2⟩ := info_parts info_u8
  have BL := Lib.hid hl
  have SZ0 : Hid (∀ k, v.ownBlock = some k → k < w.heap.size) := fun k hk => (ho.lt k hk).2
  have H0 := Lib.hid (OwnG.start ho hb)
  obtain ⟨xn, hxn⟩ : ∃ xn, xn = x.at_.n := ⟨_, rfl⟩
  obtain ⟨xh, hxh⟩ : ∃ xh, xh = x.at_.h := ⟨_, rfl⟩
  obtain ⟨vx, hvx⟩ : ∃ vx, vx = x.coin.val := ⟨_, rfl⟩
  obtain ⟨kl, hkl⟩ : ∃ kl, kl = x.coin.lock := ⟨_, rfl⟩
  obtain ⟨t, ht⟩ : ∃ t, t = x.coin.height := ⟨_, rfl⟩
  obtain ⟨q, hq⟩ : ∃ q, q = x.coin.base := ⟨_, rfl⟩
  obtain ⟨n4, hn4⟩ : ∃ n4, n4 = (t % 4294967296).toNat := ⟨_, rfl⟩
  have L4 : leB (hN t) 4 = leB n4 4 := leB_congr 4 _ _ (by rw [hn4]; unfold hN; omega)
  have EB : Hid (spB x = xh ++ leB xn 4 ++ leB vx 8 ++ kl ++ leB n4 4 ++ [if q then 1 else 0]) := by show _ = _; rw [← L4, hxn, hxh, hvx, hkl, ht, hq]; rfl
  have XHL : Hid (xh.length = 32) := by show _ = _; rw [hxh]; exact hx.1.1
  have KLN : Hid (kl.length = 32) := by show _ = _; rw [hkl]; exact hx.2.1
  have XNB : Hid (xn ≤ 4294967295) := by show _ ≤ _; rw [hxn]; exact hx.1.2
  have N4B : Hid (n4 ≤ 4294967295) := by show _ ≤ _; rw [hn4]; omega
  have N4 : Hid (Value.int .u32 (t % 4294967296) = .int .u32 (n4 : Int)) := congrArg (Value.int .u32) (by rw [hn4]; omega)
  have CH : Hid (∀ (W : World), W.heap[w.heap.size]? = some (.cells (spL x).toArray 45 (0, 0)) → W.rangeAt w.heap.size 0 (xh.map bV)) := fun W h => by rw [hxh]; exact pt_hash_r (sp_pt (range_of_box h))
  have CN : Hid (∀ (W : World), W.heap[w.heap.size]? = some (.cells (spL x).toArray 45 (0, 0)) → W.cell? ⟨w.heap.size, 32, none⟩ = some (.int .u32 (xn : Int))) := fun W h => by
    have := pt_num_r hx.1.1 (sp_pt (range_of_box h))
    rw [hxn]
    rwa [Nat.zero_add] at this
  have MN : ∀ (W : World), W.heap[w.heap.size]? = some (.cells (spL x).toArray 45 (0, 0)) → W.rangeAt w.heap.size 33 (mnL x.coin) := fun W h => by
    have := sp_mn hx (range_of_box h)
    rwa [Nat.zero_add] at this
  have CV : Hid (∀ (W : World), W.heap[w.heap.size]? = some (.cells (spL x).toArray 45 (0, 0)) → W.cell? ⟨w.heap.size, 33, none⟩ = some (.int .u64 (vx : Int))) := fun W h => by rw [hvx]; exact mn_val (MN W h)
  have CL : Hid (∀ (W : World), W.heap[w.heap.size]? = some (.cells (spL x).toArray 45 (0, 0)) → W.rangeAt w.heap.size 34 (kl.map bV)) := fun W h => by rw [hkl]; exact mn_lock (MN W h)
  have CT : Hid (∀ (W : World), W.heap[w.heap.size]? = some (.cells (spL x).toArray 45 (0, 0)) → W.cell? ⟨w.heap.size, 66, none⟩ = some (.int .i64 t)) := fun W h => by rw [ht]; exact mn_height hx.2.1 (MN W h)
  have CB : Hid (∀ (W : World), W.heap[w.heap.size]? = some (.cells (spL x).toArray 45 (0, 0)) → W.cell? ⟨w.heap.size, 67, none⟩ = some (.bool q)) := fun W h => by rw [hq]; exact mn_base hx.2.1 (MN W h)
  obtain ⟨cx, hcx⟩ : ∃ cx, cx = spL x := ⟨_, rfl⟩
  rw [← hcx] at CH CN CV CL CT CB ⊢
  clear hx hb hl ho hxn hxh hvx hkl ht hq hn4 L4 MN hcx
  go_enter Tryd.func38, Tryd.ntmps38
  go_upto_region 1 with fail
  have f3 := heap_alloc_new w (.cells cx.toArray 45 (0, 0))
  have b0 := (Below.refl w.heap.size w).alloc (Nat.le_refl _) (.cells cx.toArray 45 (0, 0))
  generalize hw1 : World.alloc _ _ = w1
  have e1 : w.alloc (.cells cx.toArray 45 (0, 0)) = w1 := hw1
  rw [e1] at f3 b0
  have H1 := Lib.hid (H0.out.keep8 b0)
  obtain ⟨g3, hg3⟩ : ∃ g3, g3 = w.heap.size := ⟨_, rfl⟩
  rw [← hg3] at f3 SZ0 CH CN CV CL CT CB ⊢
  have GL : Hid (g3 < w1.heap.size) := (Array.getElem?_eq_some_iff.1 f3).1
  have ROW : Hid (∀ w', w1.grownBy w' v.ownBlock → w'.heap[g3]? = some (.cells cx.toArray 45 (0, 0))) := fun w' h => by
    rw [h.block g3 GL.out (fun e => by have := SZ0.out g3 e.symm; omega)]
    exact f3
  have H2 := Lib.hid (OwnG.start H1.out.1 H1.out.2.2.2)
  clear f3 b0 hw1 e1 hg3 H0
  go_upto_region 2 with ((with_reducible show wpList _ _ _ _ _ _); (refine wpList_append_g w1 rfl (.tmp 5) (.tmp 8) 85 rfl base 5 i0 Tryd.underlying85 hi hz0 hz1 hz2 v _ _ rfl H2.out.1 (.slice (some ⟨g3, 0, none⟩) 32 32) xh rfl (src_range (CH.out _ (ROW.out _ H2.out.2.1)) XHL.out.symm (by omega) (Nat.le_refl _)) (by have := BL.out; have := XHL.out; omega) H2.out.2.2.2 ?_; intro v2 w2 a1 a2 a3; have H2B := Lib.hid (H2.out.app a1 a2 a3); clear a1 a2 a3; go_frame))
  have cn := CN.out w2 (ROW.out w2 H2B.out.2.1)
  go_wp2_with fail
  refine (rfour_g xn base _ _ w2 XNB.out H2B.out.2.2.2 (by have := BL.out; have := XHL.out; simp only [List.length_append]; omega) H2B.out.1).mono ?_
  rintro e w3 ⟨v3, rfl, h3⟩
  have H3 := Lib.hid (H2B.out.trans h3)
  clear h3 cn H2B H2
  go_upto_region 3 with fail
  refine wp_region_held_drew (S := (fun w' => w1.grownBy w' v.ownBlock)) (by kernel_rfl) (gr_drew8 H3.out.2.1) (fun hHeld => ?_)
  have H3 := Lib.hid (H3.out.keep8 (Below.drew (Below.refl _ _)))
  generalize hwd : w3.drew = wd at H3 hHeld ⊢
  clear hwd
  refine held_take (i := 0) (v := v3) rfl (by kernel_rfl) (by kernel_rfl) (by kernel_rfl) (fun _ _ _ h => h) (Or.inl ⟨by rfl, fun w' _ => by kernel_rfl⟩) hHeld ?_
  go_frame
  refine held_take (i := 1) (v := (.pointer (some ⟨g3, 33, none⟩))) rfl (by kernel_rfl) (by kernel_rfl) (by kernel_rfl) (fun _ _ _ h => h) (Or.inl ⟨by rfl, fun w' _ => by kernel_rfl⟩) hHeld ?_
  go_frame
  refine held_take (i := 2) (v := (.pointer (some ⟨g3, 33, none⟩))) rfl (by kernel_rfl) (by kernel_rfl) (by kernel_rfl) (fun _ _ _ h => h) (Or.inl ⟨by rfl, fun w' _ => by kernel_rfl⟩) hHeld ?_
  go_frame
  refine held_take (i := 3) (v := (.int .u64 (vx : Int))) rfl (by kernel_rfl) (by kernel_rfl) (by kernel_rfl) (fun _ _ _ h => h) (yieldsIf_load_one (by rfl) 37 (.tmp 17) rfl g3 (33) rfl _ _ (fun w' hw' => CV.out _ (ROW.out w' hw')) Tryd.underlying37 rfl) hHeld ?_
  go_frame
  refine held_take (i := 5) (v := (.pointer (some ⟨g3, 33, none⟩))) rfl (by kernel_rfl) (by kernel_rfl) (by kernel_rfl) (fun _ _ _ h => h) (Or.inl ⟨by rfl, fun w' _ => by kernel_rfl⟩) hHeld ?_
  go_frame
  refine held_take (i := 6) (v := (.pointer (some ⟨g3, 34, none⟩))) rfl (by kernel_rfl) (by kernel_rfl) (by kernel_rfl) (fun _ _ _ h => h) (Or.inl ⟨by rfl, fun w' _ => by kernel_rfl⟩) hHeld ?_
  go_frame
  refine held_take (i := 7) (v := (.slice (some ⟨g3, 34, none⟩) 32 32)) rfl (by kernel_rfl) (by kernel_rfl) (by kernel_rfl) (fun _ _ _ h => h) (Or.inl ⟨by rfl, fun w' _ => by kernel_rfl⟩) hHeld ?_
  go_frame
  refine wpAnyH_ready (rs := [4]) (by kernel_rfl) (by simp) (held_cons rfl (fun K hK => ?_) AllReadyH.nil)
  go_simp
  refine (reight_g vx base _ _ _ H3.out.2.2.2 (by have := BL.out; have := XHL.out; simp only [List.length_append, leB_length]; omega) H3.out.1).mono ?_
  rintro e v1 ⟨v4, rfl, h4⟩
  have H4 := Lib.hid (H3.out.trans h4)
  clear h4 H3
  have bb := True.intro
  have hv1 := H4.out.2.1
  clear bb hHeld
  go_wp2_with fail
  refine hK.out _ _ hv1 (fun hHeld => ?_)
  clear hK K hv1
  refine wpAnyH_ready (rs := [8]) (by kernel_rfl) (by simp) (held_cons rfl (fun K hK => ?_) AllReadyH.nil)
  rw [if_pos (by rfl)]
  refine wp_append_g v1 (.tmp 19) (.tmp 22) 85 rfl base 5 i0 Tryd.underlying85 hi hz0 hz1 hz2 v4 _ _ rfl H4.out.1 (.slice (some ⟨g3, 34, none⟩) 32 32) kl rfl (src_range (CL.out _ (ROW.out _ H4.out.2.1)) KLN.out.symm (by omega) (Nat.le_refl _)) (by have := BL.out; have := KLN.out; have := XHL.out; simp only [List.length_append, leB_length] at *; omega) H4.out.2.2.2 ?_
  intro xv2 v2 a1 a2 a3
  have H5 := Lib.hid (H4.out.app a1 a2 a3)
  have hv2 := H5.out.2.1
  clear a1 a2 a3 hHeld H4
  go_frame
  refine hK.out _ _ hv2 (fun hHeld => ?_)
  clear hK K hv2
  refine held_take (i := 9) (v := xv2) rfl (by kernel_rfl) (by kernel_rfl) (by kernel_rfl) (fun _ _ _ h => h) (Or.inl ⟨by rfl, fun w' _ => by kernel_rfl⟩) hHeld ?_
  go_frame
  refine wpAnyH_done (by kernel_rfl) ?_ _
  clear hHeld
  have ct := CT.out v2 (ROW.out _ H5.out.2.1)
  go_wp2_with fail
  rw [N4.out]
  refine (rfour_g n4 base _ _ v2 N4B.out H5.out.2.2.2 (by have := BL.out; have := XHL.out; have := KLN.out; simp only [List.length_append, leB_length]; omega) H5.out.1).mono ?_
  rintro e w6 ⟨v6, rfl, h6⟩
  have H6 := Lib.hid (H5.out.trans h6)
  clear h6 ct H5
  have cb := CB.out w6 (ROW.out _ H6.out.2.1)
  cases q with
  | true =>
    have EB : Hid (spB x = xh ++ leB xn 4 ++ leB vx 8 ++ kl ++ leB n4 4 ++ [1]) := EB.out
    go_wp2_with (at_builtin; refine wpList_append_own_at _ rfl _ _ 85 rfl base 5 i0 (.int .u8 0) 1 1 Tryd.underlying85 hi hz0 hz1 hz2 rfl (by decide) v6 _ _ rfl (H6.out.1.alloc _) ⟨w6.heap.size, 0, none⟩ 1 1 [.int .u8 (bv 1)] rfl rfl (cell_one_new _ _ _) (one_u8 _) (by have := BL.out; have := XHL.out; have := KLN.out; simp only [List.length_append, leB_length]; unfold maxLen; omega) (by have := BL.out; have := XHL.out; have := KLN.out; simp only [List.length_append, leB_length]; omega) (by have := H6.out.2.2.2; simp; omega) ?_; intro v9 w9 ho3 hg3 _ hv3; have HN := Lib.hid (H6.out.push 1 ho3 hg3 hv3); clear ho3 hg3 hv3; go_frame)
    go_ret
    exact ⟨_, rfl, by
      have h := H1.out.trans HN.out
      have e : bs ++ spB x = bs ++ xh ++ leB xn 4 ++ leB vx 8 ++ kl ++ leB n4 4 ++ [1] := by rw [EB.out]; simp [List.append_assoc]
      rw [e]
      exact h⟩
  | false =>
    have EB : Hid (spB x = xh ++ leB xn 4 ++ leB vx 8 ++ kl ++ leB n4 4 ++ [0]) := EB.out
    go_wp2_with (at_builtin; refine wpList_append_own_at _ rfl _ _ 85 rfl base 5 i0 (.int .u8 0) 1 1 Tryd.underlying85 hi hz0 hz1 hz2 rfl (by decide) v6 _ _ rfl (H6.out.1.alloc _) ⟨w6.heap.size, 0, none⟩ 1 1 [.int .u8 (bv 0)] rfl rfl (cell_one_new _ _ _) (one_u8 _) (by have := BL.out; have := XHL.out; have := KLN.out; simp only [List.length_append, leB_length]; unfold maxLen; omega) (by have := BL.out; have := XHL.out; have := KLN.out; simp only [List.length_append, leB_length]; omega) (by have := H6.out.2.2.2; simp; omega) ?_; intro v9 w9 ho3 hg3 _ hv3; have HN := Lib.hid (H6.out.push 0 ho3 hg3 hv3); clear ho3 hg3 hv3; go_frame)
    go_ret
    exact ⟨_, rfl, by
      have h := H1.out.trans HN.out
      have e : bs ++ spB x = bs ++ xh ++ leB xn 4 ++ leB vx 8 ++ kl ++ leB n4 4 ++ [0] := by rw [EB.out]; simp [List.append_assoc]
      rw [e]
      exact h⟩
def RsiInv (L : List TSp) (base : Nat) (w : World) (vb vi : Value) (wr : World) : Prop := ∃ (k : Nat) (vq : Value), vq = vb ∧ k ≤ L.length ∧ vi = .int .i64 (k : Int) ∧ OwnG base none w wr vq (bytesC (L.take k))
set_option maxHeartbeats 4000000 in
set_option maxRecDepth 100000 in
theorem rsum_any (w : World) (base0 a : Nat) (v : Value) (L : List TSp) (h : RefAt w base0 a v L) (ho : ∀ x ∈ L, SpOk x) (hn : L.length ≤ 1048576) (sl : List UInt8) (hsl : sl = sha (bytesC L)) :
    Calls Tryd.prog 25 #[.pointer (some ⟨a, 0, none⟩)] w fun e w' => e = .returned (.agg (sl.map bV).toArray) ∧ Below w.heap.size w w' := by
  have OK := Lib.hid ho
  have NL := Lib.hid hn
  have SL := Lib.hid hsl
  have LS : Hid (sl.length = 32) := by show _ = _; rw [hsl]; exact sha_length _
  have LS' : Hid ((sl.map bV).toArray.size = 32) := by show _ = _; simp [LS.out]
  obtain ⟨sp, cap, rfl⟩ := h.at.shape
  rw [List.length_map] at h
  obtain ⟨n, hnl⟩ : ∃ n, n = L.length := ⟨_, rfl⟩
  rw [← hnl] at h
  have N := Lib.hid hnl
  have RA00 := Lib.hid h
  clear ho hn h hnl hsl
  go_enter Tryd.func25, Tryd.ntmps25
  go_upto_region 1 with fail
  have f2 := heap_alloc_new w (.cells (List.replicate 32 (bV 0)).toArray 24 (0, 0))
  have b0 := (Below.refl w.heap.size w).alloc (Nat.le_refl _) (.cells (List.replicate 32 (bV 0)).toArray 24 (0, 0))
  generalize hw1 : World.alloc _ _ = w1
  have e1 : w.alloc (.cells (List.replicate 32 (bV 0)).toArray 24 (0, 0)) = w1 := hw1
  rw [e1] at f2 b0
  obtain ⟨g2, hg2⟩ : ∃ g2, g2 = w.heap.size := ⟨_, rfl⟩
  have G2 : Hid (w.heap.size ≤ g2) := by show _ ≤ _; rw [hg2]; exact Nat.le_refl _
  rw [← hg2] at f2 ⊢
  have F2 := Lib.hid f2
  have B1 := Lib.hid b0
  have RA0 := Lib.hid (RA00.out.below b0)
  obtain ⟨base, hbs⟩ : ∃ base, base = w1.heap.size := ⟨_, rfl⟩
  have HB : Hid (base ≤ w1.heap.size) := by show _ ≤ _; omega
  have HW : Hid (w.heap.size ≤ base) := by show _ ≤ _; rw [hbs]; exact b0.size
  have H1 : Hid (OwnG base none w1 w1 (.slice none 0 0) (bytesC (L.take 0))) := OwnG.start (v := .slice none 0 0) (bs := []) (World.ownsRow_nil _ _ _ _) HB.out
  clear f2 b0 hw1 e1 hg2 hbs RA00
  go_wp2_with fail
  go_loopw [3, 4] (fun vb vi wr => RsiInv L base w1 vb vi wr) (fun _ vi _ => n - (intOf vi).toNat)
  case atStart => exact ⟨0, _, rfl, Nat.zero_le _, rfl, H1.out⟩
  case round =>
    clear H1
    obtain ⟨k, vb, rfl, hk, rfl, hg⟩ := hrel
    have HG := Lib.hid hg
    rw [← N.out] at hk
    have KB : Hid (Below w1.heap.size w1 wr) := ⟨hg.2.1.os, hg.2.1.tape, hg.2.1.output, hg.2.1.size, fun k hk => hg.2.1.block k hk (fun e => by cases e)⟩
    clear hg
    have RA := Lib.hid (RA0.out.below KB.out)
    have rc := RA.out.cell
    have LT : Hid ((bytesC (L.take k)).length ≤ 84934656) := by
      show _ ≤ _
      rw [bytesC_length (fun y hy => OK.out y (List.mem_of_mem_take hy)), List.length_take]
      have := NL.out
      omega
    by_cases hlt : k < n
    · obtain ⟨b, o, rfl, hg⟩ := RA.out.at.get (by omega)
      have hkl : k < L.length := by rw [← N.out]; exact hlt
      obtain ⟨x, hx⟩ : ∃ x, L[k]? = some x := ⟨_, List.getElem?_eq_getElem hkl⟩
      have ox := OK.out x (List.mem_of_getElem? hx)
      have RX := Lib.hid (hg k (spL x) (by rw [List.getElem?_map, hx]; rfl))
      have LX : Hid ((spL x).length = 68) := spL_length ox
      have TK : Hid (bytesC (L.take k) ++ spB x = bytesC (L.take (k + 1))) := bytesC_take hx
      have ON := Lib.hid (rone_any x ox base (bytesC (L.take k)) vb wr HG.out.2.2.2 (by have := LT.out; omega) HG.out.1)
      have p0 : 0 ≤ (k : Int) := by omega
      have q0 : (k : Int) < (n : Int) := by omega
      have nb : n ≤ 1048576 := by rw [N.out]; exact NL.out
      clear hg hx ox hkl
      go_wp2_with ((with_reducible show wpList _ _ _ _ _ _); refine wpList_load_mid rfl 45 (.tmp 20) rfl b (o + k * 68) rfl (spL x) _ RX.out Tryd.underlying45 rfl (by rw [LX.out]; kernel_rfl) ?_; go_frame)
      refine ON.out.mono ?_
      rintro e w4 ⟨v4, rfl, h4⟩
      have H4 := Lib.hid (HG.out.trans h4)
      rw [TK.out] at H4
      clear h4 rc
      go_wp2_with fail
      go_roundw
      case rel => exact ⟨k + 1, _, rfl, by rw [← N.out]; omega, by go_num, H4.out⟩
      case measure => simp [intOf]; omega
    · have hge : ¬ (k : Int) < (n : Int) := by omega
      have HL : Hid (OwnG base none w1 wr vb (bytesC L)) := by
        have h := HG.out
        rw [List.take_of_length_le (by rw [← N.out]; omega)] at h
        exact h
      have LL : Hid ((bytesC L).length ≤ 84934656) := by
        show _ ≤ _
        rw [bytesC_length OK.out]
        have := NL.out
        omega
      obtain ⟨sb, nb, cb, hvb⟩ : ∃ sb nb cb, vb = .slice sb nb cb := by
        rcases HL.out.1.2 with ⟨h, _⟩ | ⟨g, c, _, h, _⟩
        · exact ⟨_, _, _, h⟩
        · exact ⟨_, _, _, h⟩
      have HSH : Hid (Calls Tryd.prog 39 #[vb] wr fun e w' => e = .returned (.agg (sl.map bV).toArray) ∧ Below wr.heap.size wr w') := by
        have hs := src_own HL.out.1
        have nl := own_len HL.out.1
        rw [SL.out]
        subst hvb
        have h1 : nb ≤ 35184372088832 := by
          have := LL.out
          rcases hs with ⟨_, _, e, e2⟩ | ⟨_, _, _, _, e, _⟩
          · cases e; omega
          · cases e; omega
        exact ref_any (bytesC L) sb nb cb wr hs h1
      have F2r := Lib.hid (row_below F2.out KB.out)
      clear hvb HG
      go_wp2_with fail
      refine HSH.out.mono ?_
      rintro e w5 ⟨rfl, b5⟩
      have F5 := Lib.hid (row_below F2r.out b5)
      have B5 := Lib.hid ((B1.out.trans (KB.out.mono B1.out.size)).trans (b5.mono (Nat.le_trans B1.out.size KB.out.size)))
      clear b5 HSH
      go_wp2_with ((with_reducible show wpList _ _ _ _ _ _); refine wpList_store_row rfl 24 (.tmp 2) (.tmp 24) rfl g2 (sl.map bV).toArray rfl rfl 24 _ F5.out (by rw [LS'.out]; kernel_rfl) (by rw [LS'.out]; rfl) (bV_one _) ?_; go_frame)
      refine bodyPost_ret (results_cell_row rfl _ _ g2 24 (sl.map bV).toArray (0, 0) _ rfl (setRow_heap _ _ _ _ _ _ F5.out) Tryd.underlying24 rfl (by rw [LS'.out]; kernel_rfl)) rfl ?_
      exact ⟨rfl, below_setRow B5.out G2.out _⟩
end Go.Proofs.YtlmfchcafhidoaaDoor.Sha

/-
  The statements' own first, and their own sameness of coins. Nothing that was there turns. Conditions: coins as the model has them; the errors are there.
-/
namespace Go.Proofs.YtlmfchcafhidoaaDoor.Sha
open Go Go.RowKit
theorem ptZ_ok : PtOk ptZ := ⟨rfl, Nat.zero_le _⟩
set_option maxHeartbeats 2000000 in
set_option maxRecDepth 100000 in
theorem cfirst_any (E : Nat → Addr) (w : World) (hE : Errs w E) :
    Calls Tryd.prog 7 #[] w fun e w' => e = .returned (.bool true) ∧ Below w.heap.size w w' := by
  have HE := Lib.hid hE
  clear hE
  go_enter Tryd.func7, Tryd.ntmps7
  go_upto_region 2 with fail
  have f0 := heap_alloc_new w (.cells #[.map none] 32 (0, 0))
  have b0 := (Below.refl w.heap.size w).alloc (Nat.le_refl _) (.cells #[.map none] 32 (0, 0))
  generalize hw1 : World.alloc _ _ = w1
  have e1 : w.alloc (.cells #[.map none] 32 (0, 0)) = w1 := hw1
  rw [e1] at f0 b0
  obtain ⟨g, hg⟩ : ∃ g, g = w.heap.size := ⟨_, rfl⟩
  rw [← hg] at f0 ⊢
  have S1 : Hid (SetAt w1 g none []) := ⟨f0, rfl⟩
  have B1 := Lib.hid b0
  have SP := setspend_any E w1 g none [] ptZ (EC.of (HE.out.below B1.out)) S1.out ptZ_ok
  rw [show getC ([] : List TSp) ptZ = none from rfl] at SP
  simp only [Option.getD_none, Option.isSome_none, Bool.false_eq_true, if_false] at SP
  have SP := Lib.hid SP
  clear f0 b0 hw1 e1 hg
  go_wp2_with ((with_reducible show wpList _ _ _ _ _ _); (refine wpList_buildTo rfl 27 _ rfl _ rfl (ptC ptZ).toArray (by kernel_rfl) ?_; go_frame))
  refine SP.out.mono ?_
  rintro e w2 ⟨rfl, s2, k2⟩
  have S2 := Lib.hid s2
  have B2 := Lib.hid (B1.out.trans ((k2.toBelow (fun k _ => fun e => by cases e)).mono B1.out.size))
  clear s2 k2 SP
  go_upto_region 3 with ((with_reducible show wpList _ _ _ _ _ _); (refine wpList_store_row rfl 39 (.tmp 2) (.tmp 7) rfl w2.heap.size (mnL mnZ).toArray rfl rfl 39 _ (heap_alloc_new _ _) (by kernel_rfl) rfl (mnL_all _) ?_; go_frame))
  obtain ⟨_, f2, f3, f4⟩ := fill_setup (Below.refl w2.heap.size w2) (mnL mnZ).toArray (mnL mnZ).toArray 39
  generalize hw5 : World.setRow _ _ _ = w5
  have e5 : World.setRow (w2.alloc (.cells (mnL mnZ).toArray 39)) w2.heap.size (mnL mnZ).toArray = w5 := hw5
  rw [e5] at f4
  have S5 := Lib.hid (S2.out.below f4)
  have B5 := Lib.hid (B2.out.trans (f4.mono B2.out.size))
  clear f2 f3 f4 hw5 e5
  go_wp2_with fail
  refine (is_any E 13 113 true rfl w5 (HE.out.below B5.out) (by omega)).mono ?_
  rintro e w6 ⟨rfl, b6⟩
  have S6 := Lib.hid (S5.out.below b6)
  have B6 := Lib.hid (B5.out.trans (b6.mono B5.out.size))
  clear b6
  go_wp2_with fail
  refine (setlen_any w6 g none _ S6.out).mono ?_
  rintro e w7 ⟨rfl, rfl⟩
  go_wp2_with fail
  go_ret
  exact ⟨rfl, B6.out⟩
set_option maxHeartbeats 1000000 in
set_option maxRecDepth 100000 in
theorem samemn_true (c : TMn) (hc : MnOk c) (w : World) :
    Calls Tryd.prog 16 #[.agg (mnL c).toArray, .agg (mnL c).toArray] w fun e w' => e = .returned (.bool true) ∧ Below w.heap.size w w' := by
  have R1 : ∀ (W : World) (g : Nat), W.heap[g]? = some (.cells (mnL c).toArray 39 (0, 0)) → W.rangeAt g 0 (mnL c) := fun W g q => range_of_box q
  have K0 : Hid (∀ (W : World) (g : Nat), W.heap[g]? = some (.cells (mnL c).toArray 39 (0, 0)) → W.cell? ⟨g, 0, none⟩ = some (.int .u64 (c.val : Int))) := fun W g q => mn_val (R1 W g q)
  have K1 : Hid (∀ (W : World) (g : Nat), W.heap[g]? = some (.cells (mnL c).toArray 39 (0, 0)) → W.rangeAt g 1 (c.lock.map bV)) := fun W g q => by
    have := mn_lock (R1 W g q)
    rwa [Nat.zero_add] at this
  have K2 : Hid (∀ (W : World) (g : Nat), W.heap[g]? = some (.cells (mnL c).toArray 39 (0, 0)) → W.cell? ⟨g, 33, none⟩ = some (.int .i64 c.height)) := fun W g q => by
    have := mn_height hc.1 (R1 W g q)
    rwa [Nat.zero_add] at this
  have K3 : Hid (∀ (W : World) (g : Nat), W.heap[g]? = some (.cells (mnL c).toArray 39 (0, 0)) → W.cell? ⟨g, 34, none⟩ = some (.bool c.base)) := fun W g q => by
    have := mn_base hc.1 (R1 W g q)
    rwa [Nat.zero_add] at this
  have LL : Hid ((c.lock.map bV).length = 32) := by show _ = _; rw [List.length_map, hc.1]
  have LK : Hid (c.lock.length = 32) := hc.1
  obtain ⟨cm, hcm⟩ : ∃ cm, cm = mnL c := ⟨_, rfl⟩
  obtain ⟨z, hz⟩ : ∃ z, z = (c.val : Int) := ⟨_, rfl⟩
  obtain ⟨lk, hlk⟩ : ∃ lk, lk = c.lock := ⟨_, rfl⟩
  obtain ⟨t, ht⟩ : ∃ t, t = c.height := ⟨_, rfl⟩
  obtain ⟨bb, hbb⟩ : ∃ bb, bb = c.base := ⟨_, rfl⟩
  rw [← hcm] at K0 K1 K2 K3 ⊢
  rw [← hz] at K0
  rw [← hlk] at K1 LL LK
  rw [← ht] at K2
  rw [← hbb] at K3
  clear hcm hz hlk ht hbb R1 hc
  go_enter Tryd.func16, Tryd.ntmps16
  go_upto_region 1 with fail
  obtain ⟨B, F, F'⟩ := boxes_two w cm.toArray cm.toArray 39
  generalize hw1 : World.alloc _ _ = w1
  rw [hw1] at B F F'
  have c0 := K0.out _ _ F
  have d0 := K0.out _ _ F'
  have R1 := Lib.hid (K1.out _ _ F)
  have R2 := Lib.hid (K1.out _ _ F')
  have B1 := Lib.hid B
  have F1 := Lib.hid F
  have F2 := Lib.hid F'
  clear B F F' hw1
  go_wp2_with ((with_reducible show wpList _ _ _ _ _ _); first | (refine wpList_load_midG 24 (.tmp 11) rfl w.heap.size 1 rfl (lk.map bV) _ R1.out Tryd.underlying24 rfl (by rw [LL.out]; kernel_rfl) rfl ?_; go_frame) | (refine wpList_load_midG 24 (.tmp 13) rfl (w.heap.size + 1) 1 rfl (lk.map bV) _ R2.out Tryd.underlying24 rfl (by rw [LL.out]; kernel_rfl) rfl ?_; go_frame))
  refine (same_true lk lk rfl LK.out w1).mono ?_
  rintro e w2 ⟨rfl, b2⟩
  have B2 := Lib.hid (B1.out.trans (b2.mono B1.out.size))
  have c1 := K2.out _ _ (row_below F1.out b2)
  have d1 := K2.out _ _ (row_below F2.out b2)
  have c2 := K3.out _ _ (row_below F1.out b2)
  have d2 := K3.out _ _ (row_below F2.out b2)
  clear b2 c0 d0
  go_wp2_with fail
  go_ret
  exact ⟨by simp, B2.out⟩
set_option maxHeartbeats 1000000 in
set_option maxRecDepth 100000 in
theorem samesp1_true (x : TSp) (hx : SpOk x) (w : World) :
    Calls Tryd.prog 32 #[.agg (spL x).toArray, .agg (spL x).toArray] w fun e w' => e = .returned (.bool true) ∧ Below w.heap.size w w' := by
  have SP : Hid (∀ W, Calls Tryd.prog 44 #[.agg (ptC x.at_).toArray, .agg (ptC x.at_).toArray] W fun e w' => e = .returned (.bool true) ∧ Below W.heap.size W w') := fun W => samept_any _ _ _ _ hx.1.1 hx.1.1 true (by simp) W
  have SM : Hid (∀ W, Calls Tryd.prog 16 #[.agg (mnL x.coin).toArray, .agg (mnL x.coin).toArray] W fun e w' => e = .returned (.bool true) ∧ Below W.heap.size W w') := fun W => samemn_true _ hx.2 W
  have K0 : Hid (∀ (W : World) (g : Nat), W.heap[g]? = some (.cells (spL x).toArray 45 (0, 0)) → W.rangeAt g 0 (ptC x.at_)) := fun W g q => sp_pt (range_of_box q)
  have K1 : Hid (∀ (W : World) (g : Nat), W.heap[g]? = some (.cells (spL x).toArray 45 (0, 0)) → W.rangeAt g 33 (mnL x.coin)) := fun W g q => by
    have := sp_mn hx (range_of_box q)
    rwa [Nat.zero_add] at this
  have L0 : Hid ((ptC x.at_).length = 33) := ptC_length hx.1
  have L1 : Hid ((mnL x.coin).length = 35) := mnL_length hx.2
  obtain ⟨sx, hsx⟩ : ∃ sx, sx = spL x := ⟨_, rfl⟩
  obtain ⟨cp, hcp⟩ : ∃ cp, cp = ptC x.at_ := ⟨_, rfl⟩
  obtain ⟨cm, hcm⟩ : ∃ cm, cm = mnL x.coin := ⟨_, rfl⟩
  rw [← hsx] at K0 K1 ⊢
  rw [← hcp] at K0 L0 SP
  rw [← hcm] at K1 L1 SM
  clear hsx hcp hcm hx
  go_enter Tryd.func32, Tryd.ntmps32
  go_upto_region 1 with fail
  obtain ⟨B, F, F'⟩ := boxes_two w sx.toArray sx.toArray 45
  generalize hw1 : World.alloc _ _ = w1
  rw [hw1] at B F F'
  have P1 := Lib.hid (K0.out _ _ F)
  have P2 := Lib.hid (K0.out _ _ F')
  have M1 := Lib.hid (K1.out _ _ F)
  have M2 := Lib.hid (K1.out _ _ F')
  have B1 := Lib.hid B
  clear B F F' hw1
  go_wp2_with ((with_reducible show wpList _ _ _ _ _ _); first | (refine wpList_load_mid rfl 27 (.tmp 5) rfl w.heap.size 0 rfl cp _ P1.out Tryd.underlying27 rfl (by rw [L0.out]; kernel_rfl) ?_; go_frame) | (refine wpList_load_mid rfl 27 (.tmp 7) rfl (w.heap.size + 1) 0 rfl cp _ P2.out Tryd.underlying27 rfl (by rw [L0.out]; kernel_rfl) ?_; go_frame))
  refine (SP.out w1).mono ?_
  rintro e w2 ⟨rfl, b2⟩
  have B2 := Lib.hid (B1.out.trans (b2.mono B1.out.size))
  have M3 := Lib.hid (range_below M1.out b2)
  have M4 := Lib.hid (range_below M2.out b2)
  clear b2
  go_wp2_with ((with_reducible show wpList _ _ _ _ _ _); first | (refine wpList_load_midG 39 (.tmp 11) rfl w.heap.size 33 rfl cm _ M3.out Tryd.underlying39 rfl (by rw [L1.out]; kernel_rfl) rfl ?_; go_frame) | (refine wpList_load_midG 39 (.tmp 13) rfl (w.heap.size + 1) 33 rfl cm _ M4.out Tryd.underlying39 rfl (by rw [L1.out]; kernel_rfl) rfl ?_; go_frame))
  refine (SM.out w2).mono ?_
  rintro e w3 ⟨rfl, b3⟩
  have B3 := Lib.hid (B2.out.trans (b3.mono B2.out.size))
  clear b3
  go_wp2_with fail
  go_ret
  exact ⟨rfl, B3.out⟩
def SsInv (n : Nat) (w : World) (vi : Value) (wr : World) : Prop := ∃ k : Nat, k ≤ n ∧ vi = .int .i64 k ∧ Below w.heap.size w wr
set_option maxHeartbeats 2000000 in
set_option maxRecDepth 100000 in
theorem samesps_true (l : List TSp) (ho : ∀ x ∈ l, SpOk x) (v v' : Value) (w : World) (h1 : RwAt 68 w v (l.map spL)) (h2 : RwAt 68 w v' (l.map spL)) (hn : l.length ≤ 1048576) :
    Calls Tryd.prog 21 #[v, v'] w fun e w' => e = .returned (.bool true) ∧ Below w.heap.size w w' := by
  obtain ⟨sp, cap, rfl⟩ := h1.shape
  obtain ⟨sp', cap', rfl⟩ := h2.shape
  rw [List.length_map] at h1 h2 ⊢
  obtain ⟨n, hnl⟩ : ∃ n, n = l.length := ⟨_, rfl⟩
  rw [← hnl] at h1 h2 hn ⊢
  have N := Lib.hid hnl
  have H1 := Lib.hid h1
  have H2 := Lib.hid h2
  have OK := Lib.hid ho
  clear hnl h1 h2 ho
  go_enter Tryd.func21, Tryd.ntmps21
  have hne : ((n : Int) != (n : Int)) = false := by simp
  go_wp2_with fail
  go_loopw [5] (fun vi wr => SsInv n w vi wr) (fun vi _ => n - (intOf vi).toNat)
  case atStart => exact ⟨0, by omega, rfl, Below.refl _ _⟩
  case round =>
    obtain ⟨k, hk, rfl, hb⟩ := hrel
    have BB := Lib.hid hb
    clear hb
    by_cases hlt : k < n
    · obtain ⟨b, o, rfl, hg⟩ := (H1.out.below BB.out).get (by omega)
      obtain ⟨b', o', rfl, hg'⟩ := (H2.out.below BB.out).get (by omega)
      have hkl : k < l.length := by rw [← N.out]; exact hlt
      obtain ⟨x, hx⟩ : ∃ x, l[k]? = some x := ⟨_, List.getElem?_eq_getElem hkl⟩
      have ox := OK.out x (List.mem_of_getElem? hx)
      have RX := Lib.hid (hg k (spL x) (by rw [List.getElem?_map, hx]; rfl))
      have RY := Lib.hid (hg' k (spL x) (by rw [List.getElem?_map, hx]; rfl))
      have LX : Hid ((spL x).length = 68) := spL_length ox
      have S1 : Hid (∀ W, Calls Tryd.prog 32 #[.agg (spL x).toArray, .agg (spL x).toArray] W fun e w' => e = .returned (.bool true) ∧ Below W.heap.size W w') := fun W => samesp1_true x ox W
      obtain ⟨sx, hsx⟩ : ∃ sx, sx = spL x := ⟨_, rfl⟩
      rw [← hsx] at RX RY LX S1
      have p0 : 0 ≤ (k : Int) := by omega
      have q0 : (k : Int) < (n : Int) := by omega
      clear hg hg' hx ox hkl hsx hne
      go_upto_region 6 with fail
      refine wp_region_held_drew (S := (fun w' => Below wr.heap.size wr w')) (by kernel_rfl) (Below.drew (Below.refl _ _)) (fun hHeld => ?_)
      generalize hwd : wr.drew = wd at  hHeld ⊢
      clear hwd
      refine held_take (i := 0) (v := (.slice (some ⟨b, o, none⟩) n cap)) rfl (by kernel_rfl) (by kernel_rfl) (by kernel_rfl) (fun _ _ _ h => h) (Or.inl ⟨by rfl, fun w' _ => by kernel_rfl⟩) hHeld ?_
      go_frame
      refine held_take (i := 1) (v := (.int .i64 (k : Int))) rfl (by kernel_rfl) (by kernel_rfl) (by kernel_rfl) (fun _ _ _ h => h) (Or.inl ⟨by rfl, fun w' _ => by kernel_rfl⟩) hHeld ?_
      go_frame
      refine held_take (i := 2) (v := (.pointer (some ⟨b, o + k * 68, none⟩))) rfl (by kernel_rfl) (by kernel_rfl) (by kernel_rfl) (fun _ _ _ h => h) (Or.inl ⟨by rfl, fun w' _ => by go_simp⟩) hHeld ?_
      go_frame
      refine held_take (i := 3) (v := (.agg sx.toArray)) rfl (by kernel_rfl) (by kernel_rfl) (by kernel_rfl) (fun _ _ _ h => h) (Sha.yieldsIf_load_mid (by rfl) 45 (.tmp 20) rfl b (o + k * 68) rfl sx _ (fun w' hw' => range_below RX.out hw') Tryd.underlying45 rfl (by rw [LX.out]; kernel_rfl)) hHeld ?_
      go_frame
      refine held_take (i := 4) (v := (.slice (some ⟨b', o', none⟩) n cap')) rfl (by kernel_rfl) (by kernel_rfl) (by kernel_rfl) (fun _ _ _ h => h) (Or.inl ⟨by rfl, fun w' _ => by kernel_rfl⟩) hHeld ?_
      go_frame
      refine held_take (i := 5) (v := (.int .i64 (k : Int))) rfl (by kernel_rfl) (by kernel_rfl) (by kernel_rfl) (fun _ _ _ h => h) (Or.inl ⟨by rfl, fun w' _ => by kernel_rfl⟩) hHeld ?_
      go_frame
      refine held_take (i := 6) (v := (.pointer (some ⟨b', o' + k * 68, none⟩))) rfl (by kernel_rfl) (by kernel_rfl) (by kernel_rfl) (fun _ _ _ h => h) (Or.inl ⟨by rfl, fun w' _ => by go_simp⟩) hHeld ?_
      go_frame
      refine held_take (i := 7) (v := (.agg sx.toArray)) rfl (by kernel_rfl) (by kernel_rfl) (by kernel_rfl) (fun _ _ _ h => h) (Sha.yieldsIf_load_mid (by rfl) 45 (.tmp 24) rfl b' (o' + k * 68) rfl sx _ (fun w' hw' => range_below RY.out hw') Tryd.underlying45 rfl (by rw [LX.out]; kernel_rfl)) hHeld ?_
      go_frame
      refine wpAnyH_ready (rs := [8]) (by kernel_rfl) (by simp) (held_cons rfl (fun K hK => ?_) AllReadyH.nil)
      go_simp
      refine (S1.out _).mono ?_
      rintro e v1 ⟨rfl, bb⟩
      have hv1 := hHeld.trans (bb.mono hHeld.size)
      clear bb hHeld
      go_wp2_with fail
      refine hK.out _ _ hv1 (fun hHeld => ?_)
      clear hK K hv1
      refine held_take (i := 9) (v := (.bool true)) rfl (by kernel_rfl) (by kernel_rfl) (by kernel_rfl) (fun _ _ _ h => h) (Or.inl ⟨by rfl, fun w' _ => by kernel_rfl⟩) hHeld ?_
      go_frame
      refine wpAnyH_done (by kernel_rfl) ?_ _
      have BH := Lib.hid hHeld
      clear hHeld
      go_wp2_with fail
      go_roundw
      case rel => exact ⟨k + 1, by omega, by go_num, BB.out.trans (BH.out.mono BB.out.size)⟩
      case measure => simp [intOf]; omega
    · have hge : ¬ (k : Int) < (n : Int) := by omega
      clear hne
      go_wp2_with fail
      go_ret
      exact ⟨rfl, BB.out⟩
end Go.Proofs.YtlmfchcafhidoaaDoor.Sha

/-
  The books of a play upon two sets, the project's and the statements' own, beside a copy and what was told: what each call leaves of them. Conditions: the sets lie where the pointers say.
-/
namespace Go.Proofs.YtlmfchcafhidoaaDoor.Sha
open Go Go.RowKit
theorem doL_one (x : TDo) : ∀ u ∈ doL x, u.oneCell' = true := by
  intro u hu
  unfold doL at hu
  rcases List.mem_append.1 hu with hu | hu
  · rcases List.mem_append.1 hu with hu | hu
    · simp only [List.mem_cons, List.not_mem_nil, or_false] at hu
      rcases hu with rfl | rfl <;> rfl
    · exact ptC_one _ u hu
  · exact mnL_one _ u hu
theorem doL_all (x : TDo) : (doL x).toArray.all (·.oneCell') = true := all_oneCell_toArray (doL_one x)
theorem doL_size {x : TDo} (h : DoOk x) : (doL x).toArray.size = 70 := by simp [doL_length h]
/-- What of it lies where. -/
theorem do_kind {w : World} {b o : Nat} {x : TDo} (h : w.rangeAt b o (doL x)) : w.cell? ⟨b, o, none⟩ = some (.int .i64 x.kind) := h 0 _ rfl
theorem do_n {w : World} {b o : Nat} {x : TDo} (h : w.rangeAt b o (doL x)) : w.cell? ⟨b, o + 1, none⟩ = some (.int .i64 x.n) := h 1 _ rfl
theorem do_p {w : World} {b o : Nat} {x : TDo} (h : w.rangeAt b o (doL x)) : w.rangeAt b (o + 2) (ptC x.p) := fun j v hj => by
  have hlt := (List.getElem?_eq_some_iff.1 hj).1
  have := h (2 + j) v (by
    rw [doL, List.append_assoc, List.getElem?_append_right (by simp)]
    simp only [List.length_cons, List.length_nil]
    rw [Nat.zero_add, show (1 + 1) = 2 from rfl, Nat.add_sub_cancel_left, List.getElem?_append_left hlt]
    exact hj)
  rwa [show o + (2 + j) = o + 2 + j by omega] at this
theorem do_c {w : World} {b o : Nat} {x : TDo} (hp : PtOk x.p) (h : w.rangeAt b o (doL x)) : w.rangeAt b (o + 35) (mnL x.c) := fun j v hj => by
  have hl : ([Value.int .i64 x.kind, .int .i64 x.n] ++ ptC x.p).length = 35 := by simp [ptC_length hp]
  have := h (35 + j) v (by
    rw [doL, List.getElem?_append_right (by rw [hl]; omega), hl, Nat.add_sub_cancel_left]
    exact hj)
  rwa [show o + (35 + j) = o + 35 + j by omega] at this
theorem SetAt.rowne {w : World} {a : Nat} {m : Option Nat} {l : List TSp} (hs : SetAt w a m l) {x : Nat} {cs : Array Value} {T : TypeId} {fr : Nat × Nat} (hx : w.heap[x]? = some (.cells cs T fr)) : m ≠ some x := by
  intro e
  have hmap := hs.map
  rw [e] at hmap
  obtain ⟨_, _, h1, _⟩ := hmap
  rw [hx] at h1
  cases h1
theorem SetAt.boxne {w : World} {a : Nat} {m : Option Nat} {l : List TSp} (hs : SetAt w a m l) {x : Nat} {cs : Array Value} {T : TypeId} {fr : Nat × Nat} (hT : T ≠ 32) (hx : w.heap[x]? = some (.cells cs T fr)) : x ≠ a := by
  intro e
  rw [e, hs.box] at hx
  cases hx
  exact hT rfl
theorem RefAt.boxne {w : World} {base a : Nat} {v : Value} {L : List TSp} (h : RefAt w base a v L) {x : Nat} {cs : Array Value} {T : TypeId} {fr : Nat × Nat} (hT : T ≠ 36) (hx : w.heap[x]? = some (.cells cs T fr)) : x ≠ a := by
  intro e
  rw [e, h.box] at hx
  cases hx
  exact hT rfl
theorem RefAt.rowne {w : World} {base a : Nat} {v : Value} {L : List TSp} (h : RefAt w base a v L) {x : Nat} {cs : Array Value} {T : TypeId} {fr : Nat × Nat} (hT : T ≠ 45) (hx : w.heap[x]? = some (.cells cs T fr)) : ∀ q, v.ownBlock = some q → q ≠ x := by
  intro q hq e
  rcases h.row.1.2 with ⟨hv, _⟩ | ⟨g, cap, cur, hv, _, hc, _⟩
  · rw [hv] at hq
    cases hq
  · rw [hv] at hq
    cases hq
    have hgx : g = x := e
    rw [hgx, hx] at hc
    cases hc
    exact hT rfl
/-- The two sets, a copy of the first, the place asked, the order told. -/
structure PyG (w wr : World) (p : TPt) (g3 : Nat) (d : TDo) (g9 g6 : Nat) (m : Option Nat) (s : List TSp) (gc : Nat) (mc : Option Nat) (lc : List TSp) (g7 : Nat) (v : Value) (L : List TSp) : Prop where
  t : TwoS wr g6 m s gc mc lc
  r : RefAt wr w.heap.size g7 v L
  hi : HiM w.heap.size m
  h6 : w.heap.size ≤ g6
  h7 : w.heap.size ≤ g7
  h9 : w.heap.size ≤ g9
  f3 : wr.heap[g3]? = some (.cells (ptC p).toArray 27 (0, 0))
  f9 : wr.heap[g9]? = some (.cells (doL d).toArray 41 (0, 0))
  bel : Below w.heap.size w wr
section
variable {w wr wr' : World} {p : TPt} {g3 g9 g6 gc g7 : Nat} {d d' : TDo} {m m' mc : Option Nat} {s s' lc L L' : List TSp} {v v' : Value}
theorem PyG.below (h : PyG w wr p g3 d g9 g6 m s gc mc lc g7 v L) (hb : Below wr.heap.size wr wr') : PyG w wr' p g3 d g9 g6 m s gc mc lc g7 v L :=
  ⟨h.t.below hb, h.r.below hb, h.hi, h.h6, h.h7, h.h9, row_below h.f3 hb, row_below h.f9 hb, h.bel.trans (hb.mono h.bel.size)⟩
theorem PyG.left (h : PyG w wr p g3 d g9 g6 m s gc mc lc g7 v L) (hk : Kps (fun j => j ≠ g6 ∧ m ≠ some j) wr wr') (hs : SetAt wr' g6 m' s') (hm : m' = m ∨ ∃ q, m' = some q ∧ wr.heap.size ≤ q) : PyG w wr' p g3 d g9 g6 m' s' gc mc lc g7 v L := by
  obtain ⟨a1, a2⟩ := h.r.apart h.t.l
  exact ⟨h.t.left hk hs hm, h.r.kps hk a1 a2, HiM.add h.hi h.bel.size hm, h.h6, h.h7, h.h9, row_kps h.f3 hk ⟨h.t.l.boxne (by decide) h.f3, h.t.l.rowne h.f3⟩, row_kps h.f9 hk ⟨h.t.l.boxne (by decide) h.f9, h.t.l.rowne h.f9⟩, Below.set h.bel hk h.h6 h.hi h.bel.size⟩
theorem PyG.ref (h : PyG w wr p g3 d g9 g6 m s gc mc lc g7 v L) (hk : Kps (fun j => j ≠ g7) wr wr') (hr : RefAt wr' w.heap.size g7 v' L') : PyG w wr' p g3 d g9 g6 m s gc mc lc g7 v' L' := by
  obtain ⟨a1, _⟩ := h.r.apart h.t.l
  obtain ⟨b1, _⟩ := h.r.apart h.t.r
  refine ⟨⟨h.t.l.kps hk (fun e => a1.1 e.symm) (fun q e e' => a1.2 (by rw [e, e'])), h.t.r.kps hk (fun e => b1.1 e.symm) (fun q e e' => b1.2 (by rw [e, e'])), h.t.ne, h.t.x1, h.t.x2, h.t.x3⟩, hr, h.hi, h.h6, h.h7, h.h9, row_kps h.f3 hk (h.r.boxne (by decide) h.f3), row_kps h.f9 hk (h.r.boxne (by decide) h.f9), ?_⟩
  exact h.bel.trans ⟨hk.os, hk.tape, hk.output, hk.size, fun k hlt => hk.block k (by have := h.bel.size; omega) (by have := h.h7; show k ≠ g7; omega)⟩
theorem PyG.store (h : PyG w wr p g3 d g9 g6 m s gc mc lc g7 v L) (hg : wr.grownBy wr' (some g9)) (hf : wr'.heap[g9]? = some (.cells (doL d').toArray 41 (0, 0))) : PyG w wr' p g3 d' g9 g6 m s gc mc lc g7 v L := by
  have hk : Kps (fun j => j ≠ g9) wr wr' := Kps.grown hg fun k _ hk e => hk (Option.some.inj e)
  have h3 : g3 ≠ g9 := fun e => by
    have h1 := h.f3
    rw [e, h.f9] at h1
    exact absurd (Obj.cells.inj (Option.some.inj h1)).2.1 (by decide)
  refine ⟨⟨h.t.l.kps hk (fun e => h.t.l.boxne (by decide) h.f9 e.symm) (fun q e e' => h.t.l.rowne h.f9 (by rw [e, e'])), h.t.r.kps hk (fun e => h.t.r.boxne (by decide) h.f9 e.symm) (fun q e e' => h.t.r.rowne h.f9 (by rw [e, e'])), h.t.ne, h.t.x1, h.t.x2, h.t.x3⟩, h.r.kps hk (fun e => h.r.boxne (by decide) h.f9 e.symm) (h.r.rowne (by decide) h.f9), h.hi, h.h6, h.h7, h.h9, row_kps h.f3 hk h3, hf, ?_⟩
  exact h.bel.trans ⟨hk.os, hk.tape, hk.output, hk.size, fun k hlt => hk.block k (by have := h.bel.size; omega) (by have := h.h9; show k ≠ g9; omega)⟩
theorem PyG.ok (h : PyG w wr p g3 d g9 g6 m s gc mc lc g7 v L) (hp : L.Perm s) : ∀ x ∈ L, SpOk x := fun x hx => h.t.l.map.ok x (hp.mem_iff.1 hx)
theorem py_add (h : PyG w wr p g3 d g9 g6 m s gc mc lc g7 v L) (E : Nat → Addr) (hE : EC wr E) (q : TPt) (c : TMn) (hq : PtOk q) (hc : MnOk c) :
    Calls Tryd.prog 12 #[.pointer (some ⟨g6, 0, none⟩), .agg (ptC q).toArray, .agg (mnL c).toArray] wr fun e w' => e = .returned (errV E (addR s q c)) ∧ ∃ m', PyG w w' p g3 d g9 g6 m' (addL s q c) gc mc lc g7 v L :=
  (setadd_any E wr g6 m s q c hE h.t.l hq hc).mono fun _ _ ⟨he, m', hs, hm, hk⟩ => ⟨he, m', h.left hk hs hm⟩
theorem py_radd (h : PyG w wr p g3 d g9 g6 m s gc mc lc g7 v L) (hs : SortedC L) (ho : ∀ x ∈ L, SpOk x) (hn : L.length ≤ 1048576) (q : TPt) (c : TMn) (hq : PtOk q) (hc : MnOk c) :
    Calls Tryd.prog 13 #[.pointer (some ⟨g7, 0, none⟩), .agg (ptC q).toArray, .agg (mnL c).toArray] wr fun e w' => e = .returned (.int .i64 (numE (addR L q c))) ∧ ∃ v' L', L'.Perm (addL L q c) ∧ SortedC L' ∧ PyG w w' p g3 d g9 g6 m s gc mc lc g7 v' L' :=
  (radd_any wr w.heap.size g7 v L q c h.r hs ho hq hc hn h.bel.size).mono fun _ _ ⟨he, v', L', h1, h2, h3, hk⟩ => ⟨he, v', L', h1, h2, h.ref hk h3⟩
theorem py_spend (h : PyG w wr p g3 d g9 g6 m s gc mc lc g7 v L) (E : Nat → Addr) (hE : EC wr E) (q : TPt) (hq : PtOk q) :
    Calls Tryd.prog 14 #[.pointer (some ⟨g6, 0, none⟩), .agg (ptC q).toArray] wr fun e w' => e = .returned (.tuple #[.agg (mnL ((getC s q).getD mnZ)).toArray, errV E (if (getC s q).isSome then 0 else 13)]) ∧ PyG w w' p g3 d g9 g6 m (delC s q) gc mc lc g7 v L :=
  (setspend_any E wr g6 m s q hE h.t.l hq).mono fun _ _ ⟨he, hs, hk⟩ => ⟨he, h.left (hk.mono fun j _ hj => hj.2) hs (.inl rfl)⟩
theorem py_rspend (h : PyG w wr p g3 d g9 g6 m s gc mc lc g7 v L) (hs : SortedC L) (ho : ∀ x ∈ L, SpOk x) (hn : L.length ≤ 1048576) (q : TPt) (hq : PtOk q) :
    Calls Tryd.prog 15 #[.pointer (some ⟨g7, 0, none⟩), .agg (ptC q).toArray] wr fun e w' => e = .returned (.tuple #[.agg (mnL ((getC L q).getD mnZ)).toArray, .int .i64 (numE (if (getC L q).isSome then 0 else 13))]) ∧ ∃ v', PyG w w' p g3 d g9 g6 m s gc mc lc g7 v' (delC L q) ∧ Kps (fun j => j ≠ g7) wr w' :=
  (rspend_any wr w.heap.size g7 v L q h.r hs ho hq hn h.bel.size).mono fun _ _ ⟨he, v', h3, hk⟩ => ⟨he, v', h.ref hk h3, hk⟩
end
/-- The two hold the same. -/
structure PyL (s L : List TSp) : Prop where
  pm : L.Perm s
  so : SortedC L
theorem PyL.get {s L : List TSp} (h : PyL s L) (q : TPt) : getC L q = getC s q := getC_perm h.pm (sorted_apart h.so)
theorem PyL.del {s L : List TSp} (h : PyL s L) (q : TPt) : PyL (delC s q) (delC L q) := ⟨delC_perm h.pm, del_sorted h.so⟩
theorem PyL.len {s L : List TSp} (h : PyL s L) : L.length = s.length := h.pm.length_eq
theorem PyL.addR {s L : List TSp} (h : PyL s L) (q : TPt) (c : TMn) : addR L q c = addR s q c := addR_perm (h.get q)
theorem PyL.add {s L L' : List TSp} (h : PyL s L) (q : TPt) (c : TMn) (hp : L'.Perm (addL L q c)) (hs : SortedC L') : PyL (addL s q c) L' := ⟨hp.trans (addL_perm h.pm (h.get q)), hs⟩
theorem delC_le (s : List TSp) (q : TPt) : (delC s q).length ≤ s.length := List.length_filter_le _ _
theorem addR_le (s : List TSp) (q : TPt) (c : TMn) : addR s q c ≤ 25 := by
  unfold addR
  split
  · omega
  · split <;> omega
end Go.Proofs.YtlmfchcafhidoaaDoor.Sha
