/-
  Texts of this proof joined into one file: BlSame, BlFirstWalk, BlBytes, MkClimbNo, MkCut. What each holds, and under which conditions, its own first sentence tells.
-/
import Derived.IntWalk
import Derived.Test.YtdamhoagiooicaaDoorMg08
import Derived.Test.YtdamhoagiooicaaDoorMg15
import Derived.Test.YtdamhoagiooicaaDoorMg04
import Derived.Test.YtdamhoagiooicaaDoorMg18
import Derived.Test.YtdamhoagiooicaaDoorMg03
import Derived.Test.YtdamhoagiooicaaDoorMg16
import Derived.Test.YtdamhoagiooicaaDoorMg17
import Derived.Test.YtdamhoagiooicaaDoorMg10
import Derived.Test.YtdamhoagiooicaaDoorMg14
/-
  Two rows of transactions, two blocks: the same? Nothing that was there turns. Condition: few transactions of a few inputs and outputs that lie in memory.
-/
namespace Go.Proofs.YtdamhoagiooicaaDoor.Sha
open Go Go.RowKit
def StxInv (n : Nat) (l m : List TTx) (w : World) (vi : Value) (wr : World) : Prop := ∃ k : Nat, k ≤ n ∧ vi = .int .i64 k ∧ (∀ j, j < k → l[j]? = m[j]?) ∧ Below w.heap.size w wr
set_option maxHeartbeats 2000000 in
set_option maxRecDepth 100000 in
theorem sametxs_any (l m : List TTx) (v u : Value) (w : World) (h1 : TxsAt w v l) (h2 : TxsAt w u m) (hs : ∀ t ∈ l, TxSmall t) (hl : l.length ≤ 1000) (hm : m.length ≤ 9223372036854775807) (r : Bool) (hr : r = true ↔ l = m) :
    Calls Tryd.prog 36 #[v, u] w fun e w' => e = .returned (.bool r) ∧ Below w.heap.size w w' := by
  obtain ⟨sp, cap, rfl⟩ := h1.shape
  obtain ⟨sq, cap2, rfl⟩ := h2.shape
  obtain ⟨n, hn⟩ : ∃ n, n = l.length := ⟨_, rfl⟩
  obtain ⟨nm, hnm⟩ : ∃ n, n = m.length := ⟨_, rfl⟩
  rw [← hn] at h1 ⊢
  rw [← hnm] at h2 ⊢
  have HT := Lib.hid h1
  have HU := Lib.hid h2
  have NN := Lib.hid hn
  have NM := Lib.hid hnm
  have TS := Lib.hid hs
  have HRr := Lib.hid hr
  have bn : n ≤ 1000 := by rw [hn]; exact hl
  have bm : nm ≤ 9223372036854775807 := by rw [hnm]; exact hm
  clear h1 h2 hn hnm hs hl hm hr
  by_cases hne : n = nm
  · subst hne
    go_enter Tryd.func36, Tryd.ntmps36
    go_wp2_with fail
    go_loopw [5] (fun vi wr => StxInv n l m w vi wr) (fun i _ => n - (intOf i).toNat)
    case atStart => exact ⟨0, by omega, rfl, fun j hj => by omega, Below.refl _ _⟩
    case round =>
      obtain ⟨k, hk, rfl, hp, B⟩ := hrel
      have B := Lib.hid B
      have HP := Lib.hid hp
      clear hp
      by_cases hlt : k < n
      · obtain ⟨b, o, hs1, _, hg⟩ := HT.out.get (by omega)
        obtain ⟨t, hgt⟩ : ∃ t, l[k]? = some t := ⟨_, List.getElem?_eq_getElem (by have := NN.out; omega)⟩
        obtain ⟨iv, ov, hrr, hta⟩ := hg k t hgt
        obtain ⟨b2, o2, hs2, _, hg2⟩ := HU.out.get (by omega)
        obtain ⟨t2, hgt2⟩ : ∃ t, m[k]? = some t := ⟨_, List.getElem?_eq_getElem (by have := NM.out; omega)⟩
        obtain ⟨iv2, ov2, hrr2, hta2⟩ := hg2 k t2 hgt2
        have LC : Hid ((txL t iv ov).length = 4) := rfl
        have LC2 : Hid ((txL t2 iv2 ov2).length = 4) := rfl
        obtain ⟨ct, hct⟩ : ∃ ct, ct = txL t iv ov := ⟨_, rfl⟩
        obtain ⟨cu, hcu⟩ : ∃ cu, cu = txL t2 iv2 ov2 := ⟨_, rfl⟩
        rw [← hct] at hrr hta LC
        rw [← hcu] at hrr2 hta2 LC2
        have R := Lib.hid (range_below hrr B.out)
        have R2 := Lib.hid (range_below hrr2 B.out)
        have GT := Lib.hid hgt
        have GU := Lib.hid hgt2
        obtain ⟨sm, hsm⟩ : ∃ sm : Bool, sm = true ↔ t = t2 := by
          by_cases e : t = t2
          · exact ⟨true, by simp [e]⟩
          · exact ⟨false, by simp [e]⟩
        have SM : Hid (∀ W, Below wr.heap.size wr W → Calls Tryd.prog 8 #[.agg ct.toArray, .agg cu.toArray] W fun e w' => e = .returned (.bool sm) ∧ Below W.heap.size W w') := fun W hW => by
          have ts := TS.out t (List.mem_of_getElem? GT.out)
          exact sametx_any t t2 _ _ W ((hta.below B.out).below hW) ((hta2.below B.out).below hW) (fun x hx => Nat.le_trans (ts.2.2.2 x hx) (by omega)) sm hsm (Nat.le_trans ts.2.1 (by omega)) (Nat.le_trans ts.2.2.1 (by omega))
        have HSM := Lib.hid hsm
        have p0 : 0 ≤ (k : Int) := by omega
        have q0 : (k : Int) < (n : Int) := by omega
        subst hs1 hs2
        clear hg hg2 hgt hgt2 hrr hrr2 hta hta2 hct hcu hsm
        go_wp2_with fail
        refine wp_region_held_drew (S := (fun w' => Below wr.heap.size wr w')) (by kernel_rfl) (Below.drew (Below.refl _ _)) (fun hHeld => ?_)
        generalize hwd : wr.drew = wd at  hHeld ⊢
        clear hwd
        refine held_take (i := 0) (v := (.slice (some ⟨b, o, none⟩) n cap)) rfl (by kernel_rfl) (by kernel_rfl) (by kernel_rfl) (fun _ _ _ h => h) (Or.inl ⟨by rfl, fun w' _ => by kernel_rfl⟩) hHeld ?_
        go_frame
        refine held_take (i := 1) (v := (.int .i64 (k : Int))) rfl (by kernel_rfl) (by kernel_rfl) (by kernel_rfl) (fun _ _ _ h => h) (Or.inl ⟨by rfl, fun w' _ => by kernel_rfl⟩) hHeld ?_
        go_frame
        refine held_take (i := 2) (v := (.pointer (some ⟨b, o + k * 4, none⟩))) rfl (by kernel_rfl) (by kernel_rfl) (by kernel_rfl) (fun _ _ _ h => h) (Or.inl ⟨by rfl, fun w' _ => by go_simp⟩) hHeld ?_
        go_frame
        refine held_take (i := 3) (v := (.agg ct.toArray)) rfl (by kernel_rfl) (by kernel_rfl) (by kernel_rfl) (fun _ _ _ h => h) (Sha.yieldsIf_load_mid (by rfl) 32 (.tmp 20) rfl b (o + k * 4) rfl ct _ (fun w' hw' => range_below R.out hw') Tryd.underlying32 rfl (by rw [LC.out]; kernel_rfl)) hHeld ?_
        go_frame
        refine held_take (i := 4) (v := (.slice (some ⟨b2, o2, none⟩) n cap2)) rfl (by kernel_rfl) (by kernel_rfl) (by kernel_rfl) (fun _ _ _ h => h) (Or.inl ⟨by rfl, fun w' _ => by kernel_rfl⟩) hHeld ?_
        go_frame
        refine held_take (i := 5) (v := (.int .i64 (k : Int))) rfl (by kernel_rfl) (by kernel_rfl) (by kernel_rfl) (fun _ _ _ h => h) (Or.inl ⟨by rfl, fun w' _ => by kernel_rfl⟩) hHeld ?_
        go_frame
        refine held_take (i := 6) (v := (.pointer (some ⟨b2, o2 + k * 4, none⟩))) rfl (by kernel_rfl) (by kernel_rfl) (by kernel_rfl) (fun _ _ _ h => h) (Or.inl ⟨by rfl, fun w' _ => by go_simp⟩) hHeld ?_
        go_frame
        refine held_take (i := 7) (v := (.agg cu.toArray)) rfl (by kernel_rfl) (by kernel_rfl) (by kernel_rfl) (fun _ _ _ h => h) (Sha.yieldsIf_load_mid (by rfl) 32 (.tmp 24) rfl b2 (o2 + k * 4) rfl cu _ (fun w' hw' => range_below R2.out hw') Tryd.underlying32 rfl (by rw [LC2.out]; kernel_rfl)) hHeld ?_
        go_frame
        refine wpAnyH_ready (rs := [8]) (by kernel_rfl) (by simp) (held_cons rfl (fun K hK => ?_) AllReadyH.nil)
        go_simp
        refine (SM.out _ hHeld).mono ?_
        rintro e v1 ⟨rfl, bb⟩
        have hv1 := hHeld.trans (bb.mono hHeld.size)
        clear bb hHeld
        go_wp2_with fail
        refine hK.out _ _ hv1 (fun hHeld => ?_)
        clear hK K hv1
        refine held_take (i := 9) (v := (.bool sm)) rfl (by kernel_rfl) (by kernel_rfl) (by kernel_rfl) (fun _ _ _ h => h) (Or.inl ⟨by rfl, fun w' _ => by kernel_rfl⟩) hHeld ?_
        go_frame
        refine wpAnyH_done (by kernel_rfl) ?_ _
        have B6 := Lib.hid (B.out.trans (hHeld.mono B.out.size))
        clear hHeld
        cases sm with
        | true =>
          go_wp2_with fail
          go_roundw
          case rel =>
            refine ⟨k + 1, by omega, by go_num, fun j hj => ?_, B6.out⟩
            by_cases hjk : j < k
            · exact HP.out j hjk
            · obtain rfl : j = k := by omega
              rw [GT.out, GU.out, HSM.out.1 rfl]
          case measure => simp [intOf]; omega
        | false =>
          obtain rfl : r = false := by
            cases r with
            | false => rfl
            | true =>
              have e := HRr.out.1 rfl
              have h1 := GT.out
              have h2 := GU.out
              rw [e, h2] at h1
              have h3 := HSM.out.2 (Option.some.inj h1).symm
              cases h3
          go_wp2_with fail
          go_ret
          exact ⟨rfl, B6.out⟩
      · have hkn : k = n := by omega
        have hge : ¬ (k : Int) < (n : Int) := by omega
        obtain rfl : r = true := HRr.out.2 (List.ext_getElem? (fun j => by
          by_cases hj : j < n
          · exact HP.out j (by omega)
          · rw [List.getElem?_eq_none (by have := NN.out; omega), List.getElem?_eq_none (by have := NM.out; omega)]))
        clear hkn
        go_wp2_with fail
        go_ret
        exact ⟨rfl, B.out⟩
  · have t1 : ((n : Int) == (nm : Int)) = false := by rw [beq_eq_false_iff_ne]; omega
    have t2 : ((n : Int) != (nm : Int)) = true := by rw [bne_iff_ne]; omega
    obtain rfl : r = false := by
      cases r with
      | false => rfl
      | true =>
        have e := HRr.out.1 rfl
        have h1 := NN.out
        have h2 := NM.out
        rw [e] at h1
        omega
    clear hne
    go_enter Tryd.func36, Tryd.ntmps36
    go_wp2_with fail
    go_ret
    exact ⟨rfl, Below.refl _ _⟩
set_option maxHeartbeats 2000000 in
set_option maxRecDepth 100000 in
theorem samebl_any (x y : TBlk) (v u : Value) (w : World) (h1 : BlkAt w v x) (h2 : BlkAt w u y) (hs : BlkSmall x) (hm : y.txs.length ≤ 9223372036854775807) (r : Bool) (hr : r = true ↔ x = y) :
    Calls Tryd.prog 11 #[v, u] w fun e w' => e = .returned (.bool r) ∧ Below w.heap.size w w' := by
  obtain ⟨hh, tv, rfl, ht⟩ := h1
  obtain ⟨hh2, tu, rfl, hu⟩ := h2
  obtain ⟨sh, hsh⟩ : ∃ sh : Bool, sh = true ↔ x.head = y.head := by
    by_cases e : x.head = y.head
    · exact ⟨true, by simp [e]⟩
    · exact ⟨false, by simp [e]⟩
  obtain ⟨st, hst⟩ : ∃ st : Bool, st = true ↔ x.txs = y.txs := by
    by_cases e : x.txs = y.txs
    · exact ⟨true, by simp [e]⟩
    · exact ⟨false, by simp [e]⟩
  have SH : Hid (∀ W, Calls Tryd.prog 35 #[.agg (hdL x.head).toArray, .agg (hdL y.head).toArray] W fun e w' => e = .returned (.bool sh) ∧ Below W.heap.size W w') := fun W => samehd_any x.head y.head hh hh2 sh hsh W
  have SX : Hid (∀ W, Below w.heap.size w W → Calls Tryd.prog 36 #[tv, tu] W fun e w' => e = .returned (.bool st) ∧ Below W.heap.size W w') := fun W hW => sametxs_any x.txs y.txs tv tu W (ht.below hW) (hu.below hW) hs.1 hs.2 hm st hst
  have HRR : Hid (r = (sh && st)) := by
    show _ = _
    rw [Bool.eq_iff_iff, hr, Bool.and_eq_true, hsh, hst]
    constructor
    · intro e; rw [e]; exact ⟨rfl, rfl⟩
    · rintro ⟨a, b⟩
      obtain ⟨xh, xt⟩ := x
      obtain ⟨yh, yt⟩ := y
      simp only at a b
      rw [a, b]
  obtain ⟨cs, hcs⟩ : ∃ cs, cs = blL x.head tv := ⟨_, rfl⟩
  obtain ⟨ds, hds⟩ : ∃ ds, ds = blL y.head tu := ⟨_, rfl⟩
  rw [← hcs, ← hds]
  have K1 : Hid (∀ W g, W.heap[g]? = some (.cells cs.toArray 39 (0, 0)) → BlBox W g x.head tv) := fun W g h => ⟨by rw [← hcs]; exact h⟩
  have K2 : Hid (∀ W g, W.heap[g]? = some (.cells ds.toArray 39 (0, 0)) → BlBox W g y.head tu) := fun W g h => ⟨by rw [← hds]; exact h⟩
  have L1 : Hid ((hdL x.head).length = 68) := hdL_length hh
  have L2 : Hid ((hdL y.head).length = 68) := hdL_length hh2
  have HH := Lib.hid hh
  have HH2 := Lib.hid hh2
  clear hcs hds hr hsh hst hh hh2 ht hu hs hm
  go_enter Tryd.func11, Tryd.ntmps11
  go_upto_region 1 with fail
  have f1 := row_below (heap_alloc_new w (.cells cs.toArray 39 (0, 0))) ((Below.refl _ _).alloc (Nat.le_refl _) (.cells ds.toArray 39))
  have f2 := heap_alloc_new (w.alloc (.cells cs.toArray 39 (0, 0))) (.cells ds.toArray 39)
  have b1 := ((Below.refl w.heap.size w).alloc (Nat.le_refl _) (.cells cs.toArray 39 (0, 0))).alloc (by simp) (.cells ds.toArray 39)
  rw [World.size_alloc] at f2
  generalize hw1 : World.alloc _ _ = w1
  have e1 : (w.alloc (.cells cs.toArray 39 (0, 0))).alloc (.cells ds.toArray 39) = w1 := hw1
  rw [e1] at f1 f2 b1
  have k1 := K1.out _ _ f1
  have k2 := K2.out _ _ f2
  have R1 := Lib.hid k1.head
  have R2 := Lib.hid k2.head
  have C1 : Hid (∀ W, Below w1.heap.size w1 W → W.cell? ⟨w.heap.size, 68, none⟩ = some tv) := fun W hW => (k1.below hW).txs HH.out
  have C2 : Hid (∀ W, Below w1.heap.size w1 W → W.cell? ⟨w.heap.size + 1, 68, none⟩ = some tu) := fun W hW => (k2.below hW).txs HH2.out
  have B1 := Lib.hid b1
  clear f1 f2 b1 hw1 e1 k1 k2 K1 K2
  obtain ⟨hl, hhl⟩ : ∃ hl, hl = hdL x.head := ⟨_, rfl⟩
  obtain ⟨hm, hhm⟩ : ∃ hl, hl = hdL y.head := ⟨_, rfl⟩
  rw [← hhl] at R1 L1 SH
  rw [← hhm] at R2 L2 SH
  clear hhl hhm
  go_wp2_with ((with_reducible show wpList _ _ _ _ _ _); first | (refine wpList_load_mid rfl 36 (.tmp 5) rfl w.heap.size 0 rfl hl _ R1.out Tryd.underlying36 rfl (by rw [L1.out]; kernel_rfl) ?_; go_frame) | (refine wpList_load_mid rfl 36 (.tmp 7) rfl (w.heap.size + 1) 0 rfl hm _ R2.out Tryd.underlying36 rfl (by rw [L2.out]; kernel_rfl) ?_; go_frame))
  refine (SH.out w1).mono ?_
  rintro e w2 ⟨rfl, hb2⟩
  have B2 := Lib.hid (B1.out.trans (hb2.mono B1.out.size))
  have c1 := C1.out w2 hb2
  have c2 := C2.out w2 hb2
  clear hb2
  cases sh with
  | false =>
    obtain rfl : r = false := HRR.out
    go_wp2_with fail
    go_ret
    exact ⟨rfl, B2.out⟩
  | true =>
    obtain rfl : r = st := HRR.out
    go_wp2_with fail
    refine (SX.out w2 B2.out).mono ?_
    rintro e w3 ⟨rfl, hb3⟩
    have B3 := Lib.hid (B2.out.trans (hb3.mono B2.out.size))
    clear hb3
    go_wp2_with fail
    go_ret
    exact ⟨rfl, B3.out⟩
end Go.Proofs.YtdamhoagiooicaaDoor.Sha

/-
  The statement on first transactions answers true. Nothing that was there turns. Conditions: the bytes lie where the slice says; the errors and the table are there.
-/
namespace Go.Proofs.YtdamhoagiooicaaDoor.Sha
open Go Go.RowKit
theorem u32_of (x : Int) : ∃ h32 : Nat, IntKind.u32.wrap x = (h32 : Int) ∧ h32 ≤ 4294967295 := by
  have e : IntKind.u32.wrap x = x % 4294967296 := by
    unfold IntKind.wrap
    simp [IntKind.bits, IntKind.signed]
  exact ⟨(x % 4294967296).toNat, by rw [e]; omega, by omega⟩
set_option maxHeartbeats 4000000 in
set_option maxRecDepth 100000 in
theorem blockfirst_main (E : Nat → Addr) (h : Int) (val : Nat) (lock ex : List UInt8) (ve : Value) (w : World) (hv : val ≤ 18446744073709551615) (hl : lock.length = 32) (hs : SrcB w ve ex) (hk : KTab w) (hE : ErB w E) :
    Calls Tryd.prog 3 #[.int .i64 h, .int .u64 (val : Int), .agg (lock.map bV).toArray, ve] w fun e w' => e = .returned (.bool true) ∧ Below w.heap.size w w' := by
  obtain ⟨h32, hh, h3⟩ := u32_of h
  obtain ⟨se, ne, ce, rfl, q1, q2⟩ := hs.shape'
  have NE := Lib.hid q1
  have HK := Lib.hid hk
  have HE := Lib.hid hE
  have LK := Lib.hid hl
  have LL : Hid ((lock.map bV).toArray.size = 32) := by show _ = _; simp [hl]
  have SE := Lib.hid hs
  have FC : Hid (ex.length ≤ 60 → ∀ W, Below w.heap.size w W → Calls Tryd.prog 9 #[.int .i64 h, .int .u64 (val : Int), .agg (lock.map bV).toArray, .slice se ne ce] W fun e w' => ∃ v', e = .returned v' ∧ TxNew W w' v' (firstT h32 val lock ex) ∧ Below W.heap.size W w') := fun hx W hW => blfirst_any h h32 val lock ex _ W hh h3 hv hl (SE.out.below hW) (by omega)
  have FR : Hid (ex.length ≤ 60 → ∀ W, Below w.heap.size w W → Calls Tryd.prog 10 #[.int .i64 h, .int .u64 (val : Int), .agg (lock.map bV).toArray, .slice se ne ce] W fun e w' => ∃ v', e = .returned v' ∧ TxNew W w' v' (firstT h32 val lock ex) ∧ Below W.heap.size W w') := fun hx W hW => rfirst_any h h32 val lock ex _ W hh h3 hv hl (SE.out.below hW) (by omega)
  have KL : Hid (ex.length ≤ 60 → KeysLe (firstT h32 val lock ex).ins 70368744177664) := fun hx y hy => by
    simp only [firstT, List.mem_singleton] at hy
    rw [hy]
    simp only [firstX, List.length_append, leB_length]
    omega
  clear hh h3 hv hl hs hk hE q1 q2
  go_enter Tryd.func3, Tryd.ntmps3
  go_upto_region 1 with fail
  have f1 := heap_alloc_new w (.cells (lock.map bV).toArray 24 (0, 0))
  have b1 := (Below.refl w.heap.size w).alloc (Nat.le_refl _) (.cells (lock.map bV).toArray 24 (0, 0))
  generalize hw1 : World.alloc _ _ = w1
  have e1 : w.alloc (.cells (lock.map bV).toArray 24 (0, 0)) = w1 := hw1
  rw [e1] at f1 b1
  have F1 := Lib.hid f1
  have B1 := Lib.hid b1
  clear f1 b1 hw1 e1
  go_wp2_with fail
  refine (first7 E w1 (HK.out.below B1.out) (HE.out.below B1.out)).mono ?_
  rintro e w2 ⟨rfl, hb2⟩
  have F2 := Lib.hid (row_below F1.out hb2)
  have B2 := Lib.hid (B1.out.trans (hb2.mono B1.out.size))
  clear hb2 F1 B1
  by_cases h60 : 60 < ne
  · have t1 : (ne : Int) > 60 := by omega
    clear h60
    go_wp2_with fail
    go_ret
    exact ⟨rfl, B2.out⟩
  · have t1 : ¬ (ne : Int) > 60 := by omega
    have hx : ex.length ≤ 60 := by have := NE.out; omega
    have FC := Lib.hid (FC.out hx)
    have FR := Lib.hid (FR.out hx)
    have KL := Lib.hid (KL.out hx)
    clear h60 hx
    go_wp2_with fail
    refine wp_region_held_drew (S := (fun w' => Below w2.heap.size w2 w')) (by kernel_rfl) (Below.drew (Below.refl _ _)) (fun hHeld => ?_)
    generalize hwd : w2.drew = wd at  hHeld ⊢
    clear hwd
    refine held_take (i := 0) (v := (.bool true)) rfl (by kernel_rfl) (by kernel_rfl) (by kernel_rfl) (fun _ _ _ h => h) (Or.inl ⟨by rfl, fun w' _ => by kernel_rfl⟩) hHeld ?_
    go_frame
    refine held_take (i := 1) (v := (.bool true)) rfl (by kernel_rfl) (by kernel_rfl) (by kernel_rfl) (fun _ _ _ h => h) (Or.inl ⟨by rfl, fun w' _ => by kernel_rfl⟩) hHeld ?_
    go_frame
    refine held_take (i := 2) (v := (.int .i64 h)) rfl (by kernel_rfl) (by kernel_rfl) (by kernel_rfl) (fun _ _ _ h => h) (Or.inl ⟨by rfl, fun w' _ => by kernel_rfl⟩) hHeld ?_
    go_frame
    refine held_take (i := 3) (v := (.int .u64 (val : Int))) rfl (by kernel_rfl) (by kernel_rfl) (by kernel_rfl) (fun _ _ _ h => h) (Or.inl ⟨by rfl, fun w' _ => by kernel_rfl⟩) hHeld ?_
    go_frame
    refine held_take (i := 4) (v := (.agg (lock.map bV).toArray)) rfl (by kernel_rfl) (by kernel_rfl) (by kernel_rfl) (fun _ _ _ h => h) (yieldsIf_load_row (by rfl) 24 (.tmp 6) rfl w.heap.size rfl 24 (lock.map bV).toArray (0, 0) _ (fun w' hw' => row_below F2.out hw') Tryd.underlying24 rfl (by rw [LL.out]; kernel_rfl)) hHeld ?_
    go_frame
    refine held_take (i := 5) (v := (.slice se ne ce)) rfl (by kernel_rfl) (by kernel_rfl) (by kernel_rfl) (fun _ _ _ h => h) (Or.inl ⟨by rfl, fun w' _ => by kernel_rfl⟩) hHeld ?_
    go_frame
    refine held_take (i := 7) (v := (.int .i64 h)) rfl (by kernel_rfl) (by kernel_rfl) (by kernel_rfl) (fun _ _ _ h => h) (Or.inl ⟨by rfl, fun w' _ => by kernel_rfl⟩) hHeld ?_
    go_frame
    refine held_take (i := 8) (v := (.int .u64 (val : Int))) rfl (by kernel_rfl) (by kernel_rfl) (by kernel_rfl) (fun _ _ _ h => h) (Or.inl ⟨by rfl, fun w' _ => by kernel_rfl⟩) hHeld ?_
    go_frame
    refine held_take (i := 9) (v := (.agg (lock.map bV).toArray)) rfl (by kernel_rfl) (by kernel_rfl) (by kernel_rfl) (fun _ _ _ h => h) (yieldsIf_load_row (by rfl) 24 (.tmp 6) rfl w.heap.size rfl 24 (lock.map bV).toArray (0, 0) _ (fun w' hw' => row_below F2.out hw') Tryd.underlying24 rfl (by rw [LL.out]; kernel_rfl)) hHeld ?_
    go_frame
    refine held_take (i := 10) (v := (.slice se ne ce)) rfl (by kernel_rfl) (by kernel_rfl) (by kernel_rfl) (fun _ _ _ h => h) (Or.inl ⟨by rfl, fun w' _ => by kernel_rfl⟩) hHeld ?_
    go_frame
    refine wpAnyH_ready (rs := [6]) (by kernel_rfl) (by simp) (held_cons rfl (fun K hK => ?_) AllReadyH.nil)
    rw [if_pos (by rfl)]
    go_simp
    refine (FC.out _ (B2.out.trans (hHeld.mono B2.out.size))).mono ?_
    rintro e v1 ⟨v6, rfl, t6, bb⟩
    have TA := Lib.hid t6.at
    clear t6
    have hv1 := hHeld.trans (bb.mono hHeld.size)
    clear bb hHeld
    go_wp2_with fail
    refine hK.out _ _ hv1 (fun hHeld => ?_)
    clear hK K hv1
    refine wpAnyH_ready (rs := [11]) (by kernel_rfl) (by simp) (held_cons rfl (fun K hK => ?_) AllReadyH.nil)
    rw [if_pos (by rfl)]
    go_simp
    refine (FR.out _ (B2.out.trans (hHeld.mono B2.out.size))).mono ?_
    rintro e v2 ⟨v7, rfl, t7, bb⟩
    have TB := Lib.hid t7.at
    clear t7
    have TA := Lib.hid (TA.out.below bb)
    have hv2 := hHeld.trans (bb.mono hHeld.size)
    clear bb hHeld
    go_wp2_with fail
    refine hK.out _ _ hv2 (fun hHeld => ?_)
    clear hK K hv2
    refine wpAnyH_ready (rs := [12]) (by kernel_rfl) (by simp) (held_cons rfl (fun K hK => ?_) AllReadyH.nil)
    rw [if_pos (by rfl)]
    go_simp
    refine (sametx_any _ _ _ _ _ TA.out TB.out KL.out true (by simp) (by simp [firstT]) (by simp [firstT])).mono ?_
    rintro e v3 ⟨rfl, bb⟩
    have TA := Lib.hid (TA.out.below bb)
    have TB := Lib.hid (TB.out.below bb)
    have hv3 := hHeld.trans (bb.mono hHeld.size)
    clear bb hHeld
    go_wp2_with fail
    refine hK.out _ _ hv3 (fun hHeld => ?_)
    clear hK K hv3
    refine held_take (i := 13) (v := (.bool true)) rfl (by kernel_rfl) (by kernel_rfl) (by kernel_rfl) (fun _ _ _ h => h) (Or.inl ⟨by rfl, fun w' _ => by kernel_rfl⟩) hHeld ?_
    go_frame
    refine held_take (i := 14) (v := (.bool true)) rfl (by kernel_rfl) (by kernel_rfl) (by kernel_rfl) (fun _ _ _ h => h) (Or.inl ⟨by rfl, fun w' _ => by kernel_rfl⟩) hHeld ?_
    go_frame
    refine wpAnyH_ready (rs := [15]) (by kernel_rfl) (by simp) (held_cons rfl (fun K hK => ?_) AllReadyH.nil)
    rw [if_pos (by rfl)]
    go_simp
    refine (blstart_any _ (HK.out.below (B2.out.trans (hHeld.mono B2.out.size)))).mono ?_
    rintro e v4 ⟨v8, rfl, t8, bb⟩
    have SA := Lib.hid t8
    clear t8
    have TA := Lib.hid (TA.out.below bb)
    have TB := Lib.hid (TB.out.below bb)
    have hv4 := hHeld.trans (bb.mono hHeld.size)
    clear bb hHeld
    go_wp2_with fail
    refine hK.out _ _ hv4 (fun hHeld => ?_)
    clear hK K hv4
    refine wpAnyH_ready (rs := [16]) (by kernel_rfl) (by simp) (held_cons rfl (fun K hK => ?_) AllReadyH.nil)
    rw [if_pos (by rfl)]
    go_simp
    refine (rstart_any _).mono ?_
    rintro e v5 ⟨v9, rfl, t9, bb⟩
    have SB := Lib.hid t9
    clear t9
    have TA := Lib.hid (TA.out.below bb)
    have TB := Lib.hid (TB.out.below bb)
    have SA := Lib.hid (SA.out.below bb)
    have hv5 := hHeld.trans (bb.mono hHeld.size)
    clear bb hHeld
    go_wp2_with fail
    refine hK.out _ _ hv5 (fun hHeld => ?_)
    clear hK K hv5
    refine wpAnyH_ready (rs := [17]) (by kernel_rfl) (by simp) (held_cons rfl (fun K hK => ?_) AllReadyH.nil)
    rw [if_pos (by rfl)]
    go_simp
    refine (samebl_any startX startX _ _ _ SA.out SB.out startX_small (by simp [startX]) true (by simp)).mono ?_
    rintro e v6 ⟨rfl, bb⟩
    have TA := Lib.hid (TA.out.below bb)
    have TB := Lib.hid (TB.out.below bb)
    have SA := Lib.hid (SA.out.below bb)
    have SB := Lib.hid (SB.out.below bb)
    have hv6 := hHeld.trans (bb.mono hHeld.size)
    clear bb hHeld
    go_wp2_with fail
    refine hK.out _ _ hv6 (fun hHeld => ?_)
    clear hK K hv6
    refine held_take (i := 18) (v := (.bool true)) rfl (by kernel_rfl) (by kernel_rfl) (by kernel_rfl) (fun _ _ _ h => h) (Or.inl ⟨by rfl, fun w' _ => by kernel_rfl⟩) hHeld ?_
    go_frame
    refine held_take (i := 19) (v := (.bool true)) rfl (by kernel_rfl) (by kernel_rfl) (by kernel_rfl) (fun _ _ _ h => h) (Or.inl ⟨by rfl, fun w' _ => by kernel_rfl⟩) hHeld ?_
    go_frame
    refine wpAnyH_done (by kernel_rfl) ?_ _
    have B9 := Lib.hid (B2.out.trans (hHeld.mono B2.out.size))
    clear hHeld
    go_wp2_with fail
    go_ret
    exact ⟨rfl, B9.out⟩
end Go.Proofs.YtdamhoagiooicaaDoor.Sha

/-
  Package block writes a block down, in new memory. Nothing that was there turns. Condition: a block of a few transactions that lies in memory.
-/
namespace Go.Proofs.YtdamhoagiooicaaDoor.Sha
open Go Go.RowKit
def BbInv (n : Nat) (A : List UInt8) (l : List TTx) (w1 : World) (vb vi : Value) (wr : World) : Prop :=
  ∃ (k : Nat) (vq : Value), vq = vb ∧ k ≤ n ∧ vi = .int .i64 k ∧ CopyB w1 wr vq (A ++ txsB (l.take k))
set_option maxHeartbeats 2000000 in
set_option maxRecDepth 100000 in
theorem blbytes_any (x : TBlk) (v : Value) (w : World) (h1 : BlkAt w v x) (hs : BlkSmall x) :
    Calls Tryd.prog 26 #[v] w fun e w' => ∃ v', e = .returned v' ∧ CopyB w w' v' (blkB x) := by
  obtain ⟨i0, hi, hz0, hz1, hz2⟩ := info_parts info_u8
  have TL := Lib.hid hs.txs
  have BL := Lib.hid (blkB_len h1.1)
  have SZL := Lib.hid (hs.len h1.1)
  obtain ⟨hh, tv, rfl, ht⟩ := h1
  obtain ⟨sp, cap, rfl⟩ := ht.shape
  obtain ⟨n, hn⟩ : ∃ n, n = x.txs.length := ⟨_, rfl⟩
  rw [← hn] at ht ⊢
  have hcap : n ≤ cap := ht.len.2
  obtain ⟨cs, hcs⟩ : ∃ cs, cs = blL x.head (.slice sp n cap) := ⟨_, rfl⟩
  rw [← hcs]
  have CS := Lib.hid hcs
  have LCS : Hid (cs.length = 69) := by show _ = _; rw [hcs]; exact blL_length hh _
  have LCS' : Hid (cs.toArray.size = 69) := by show _ = _; rw [hcs]; exact blL_size hh _
  have BV : Hid (∀ W, Below w.heap.size w W → BlkAt W (.agg cs.toArray) x) := fun W hW => by rw [hcs]; exact ⟨hh, _, rfl, ht.below hW⟩
  have HH := Lib.hid hh
  have HT := Lib.hid ht
  have NN := Lib.hid hn
  have TS := Lib.hid hs
  have bn : n ≤ 1000 := by rw [hn]; exact hs.2
  clear hs
  clear hcs hh ht hn
  go_enter Tryd.func26, Tryd.ntmps26
  go_upto_region 1 with fail
  have f0 := heap_alloc_new w (.cells cs.toArray 39 (0, 0))
  have b0 := (Below.refl w.heap.size w).alloc (Nat.le_refl _) (.cells cs.toArray 39 (0, 0))
  generalize hw1 : World.alloc _ _ = w1
  have e1 : w.alloc (.cells cs.toArray 39 (0, 0)) = w1 := hw1
  rw [e1] at f0 b0
  have k0 := f0
  rw [CS.out] at k0
  have K : Hid (BlBox w1 w.heap.size x.head (.slice sp n cap)) := ⟨k0⟩
  have F0 := Lib.hid f0
  have B0 := Lib.hid b0
  clear hw1 e1 f0 b0 k0
  obtain ⟨sz, hsz⟩ : ∃ sz, sz = (blkB x).length := ⟨_, rfl⟩
  have bsz : sz ≤ 200200000000 := by rw [hsz]; exact SZL.out
  have SZ : Hid (∀ W, Below w.heap.size w W → Calls Tryd.prog 25 #[.agg cs.toArray] W fun e w'' => e = .returned (.int .i64 (sz : Int)) ∧ Below W.heap.size W w'') := fun W hW => by
    rw [hsz]
    exact blsize_any x _ W (BV.out W hW) TS.out
  clear hsz
  go_wp2_with ((with_reducible show wpList _ _ _ _ _ _); (refine wpList_load_row rfl 39 (.tmp 1) rfl w.heap.size rfl 39 cs.toArray (0, 0) _ F0.out Tryd.underlying39 rfl (by rw [LCS'.out]; kernel_rfl) ?_; go_frame))
  refine (SZ.out w1 B0.out).mono ?_
  rintro e w2 ⟨rfl, hb2⟩
  have B2 := Lib.hid hb2
  clear hb2 SZ
  go_upto_region 2 with (at_make; refine wpList_make_own _ rfl _ _ 25 rfl w2.heap.size 5 i0 (.int .u8 0) 1 Tryd.underlying25 hi hz0 hz1 _ _ _ sz rfl rfl (by omega) (by rw [hz2]; omega) (by unfold maxLen; omega) (Nat.le_refl _) ?_; intro w3 hown hgrow; have C3 : Hid (CopyB w2 w3 (.slice (some ⟨w2.heap.size, 0, none⟩) 0 sz) []) := (⟨hown, below_made hgrow⟩ : CopyB w2 w3 (.slice (some ⟨w2.heap.size, 0, none⟩) 0 sz) []); clear hown hgrow; go_frame)
  have C3 := Lib.hid (C3.out.start B2.out)
  clear bsz
  have HB : Hid (∀ W, Below w1.heap.size w1 W → Calls Tryd.prog 54 #[.agg (hdL x.head).toArray] W fun e w'' => ∃ v, e = .returned v ∧ CopyB W w'' v (hdB x.head)) := fun W _ => hdbytes_any x.head HH.out W
  have HR : Hid (∀ W, Below w1.heap.size w1 W → W.rangeAt w.heap.size 0 (hdL x.head)) := fun W hW => (K.out.below hW).head
  have HL : Hid ((hdL x.head).length = 68) := hdL_length HH.out
  obtain ⟨hl, hhl⟩ : ∃ hl, hl = hdL x.head := ⟨_, rfl⟩
  rw [← hhl] at HB HR HL
  clear hhl
  have r0 := HR.out w3 C3.out.2
  have R0 := Lib.hid r0
  clear r0
  go_wp2_with ((with_reducible show wpList _ _ _ _ _ _); refine wpList_load_mid rfl 36 (.tmp 10) rfl w.heap.size 0 rfl hl _ R0.out Tryd.underlying36 rfl (by rw [HL.out]; kernel_rfl) ?_; go_frame)
  refine (HB.out w3 C3.out.2).mono ?_
  rintro e w4 ⟨v4, rfl, hc4⟩
  have P4 := Lib.hid hc4
  have C4 := Lib.hid (C3.out.keep hc4.2)
  obtain ⟨s4, n4, c4, rfl, hn4, _⟩ := hc4.src.shape'
  have HD80 : Hid ((hdB x.head).length = 80) := hdB_length HH.out
  clear hn4 hc4 C3 R0 HB
  go_upto_region 3 with ((with_reducible show wpList _ _ _ _ _ _); refine wpList_append_g _ rfl (.tmp 9) (.tmp 12) 25 rfl w1.heap.size 5 i0 Tryd.underlying25 hi hz0 hz1 hz2 _ _ _ (by rfl) C4.out.1 (.slice s4 n4 c4) (hdB x.head) (by rfl) P4.out.src (by rw [HD80.out]; simp) C4.out.2.size ?_; intro v5 w5 a1 a2 a3; have C5 := Lib.hid (C4.out.app a1 a2); clear a1 a2 a3; go_frame)
  rw [List.nil_append] at C5
  clear C4 P4
  have c68 : w5.cell? ⟨w.heap.size, 68, none⟩ = some (.slice sp n cap) := (K.out.below C5.out.2).txs HH.out
  have u1 : IntKind.u64.wrap (n : Int) = (n : Int) := u64_stays (by omega)
  go_wp2_with fail
  refine (put_new [] _ n w5 (nil_src _) (by simp)).mono ?_
  rintro e w6 ⟨s6, n6, c6, rfl, hn6, hc6⟩
  have P6 := Lib.hid hc6
  have C6 := Lib.hid (C5.out.keep hc6.2)
  clear hn6 hc6 c68 u1 C5
  rw [List.nil_append] at P6
  have LP6 : Hid ((putL n).length ≤ 9) := by show _ ≤ _; rw [putL_length]; have := lenN_bd n; omega
  go_upto_region 4 with ((with_reducible show wpList _ _ _ _ _ _); refine wpList_append_g _ rfl (.tmp 14) (.tmp 19) 25 rfl w1.heap.size 5 i0 Tryd.underlying25 hi hz0 hz1 hz2 _ _ _ (by rfl) C6.out.1 (.slice s6 n6 c6) (putL n) (by rfl) P6.out.src (by have := HD80.out; have := LP6.out; omega) C6.out.2.size ?_; intro v7 w7 a1 a2 a3; have C7 := Lib.hid (C6.out.app a1 a2); clear a1 a2 a3; go_frame)
  obtain ⟨A7, hA7⟩ : ∃ A7, A7 = hdB x.head ++ putL n := ⟨_, rfl⟩
  rw [← hA7] at C7
  have LA7 : Hid (A7.length ≤ 89) := by show _ ≤ _; rw [hA7, List.length_append]; have := HD80.out; have := LP6.out; omega
  have HA7 := Lib.hid hA7
  clear hA7 P6 C6 LP6
  have c68 : w7.cell? ⟨w.heap.size, 68, none⟩ = some (.slice sp n cap) := (K.out.below C7.out.2).txs HH.out
  go_wp2_with fail
  clear c68
  go_loopw [3, 24] (fun vb vi wr => BbInv n A7 x.txs w1 vb vi wr) (fun _ i _ => n - (intOf i).toNat)
  case atStart => exact ⟨0, _, rfl, by omega, rfl, by simpa [txsB] using C7.out⟩
  case round =>
    clear C7
    obtain ⟨k, vb, rfl, hk, rfl, HC⟩ := hrel
    have HC := Lib.hid HC
    have B := Lib.hid HC.out.2
    by_cases hlt : k < n
    · skip
      obtain ⟨b, o, hs1, _, hg⟩ := HT.out.get (by omega)
      obtain ⟨t, hgt⟩ : ∃ t, x.txs[k]? = some t := ⟨_, List.getElem?_eq_getElem (by have := NN.out; omega)⟩
      obtain ⟨iv, ov, hr, hta⟩ := hg k t hgt
      have LC : Hid ((txL t iv ov).length = 4) := rfl
      have LC' : Hid ((txL t iv ov).toArray.size = 4) := rfl
      have ONE : Hid ((txL t iv ov).toArray.all (·.oneCell') = true) := by
        obtain ⟨_, iv', ov', e, h1, h2⟩ := hta
        have e : txL t iv ov = txL t iv' ov' := by simpa using e
        rw [e]
        exact tx_one h1 h2
      obtain ⟨ct, hct⟩ : ∃ ct, ct = txL t iv ov := ⟨_, rfl⟩
      rw [← hct] at hr hta LC LC' ONE
      have R := Lib.hid (range_below (range_below hr B0.out) B.out)
      have TA : Hid (∀ W, Below wr.heap.size wr W → TxAt W (.agg ct.toArray) t) := fun W hW => ((hta.below B0.out).below B.out).below hW
      have GT := Lib.hid hgt
      have p0 : 0 ≤ (k : Int) := by omega
      have q0 : (k : Int) < (n : Int) := by omega
      subst hs1
      clear hg hgt hr hta hct
      obtain ⟨g5, hg5⟩ : ∃ g5, g5 = wr.heap.size := ⟨_, rfl⟩
      obtain ⟨_, f2, f3, f4⟩ := fill_setup (Below.refl wr.heap.size wr) [nV 0, .slice none 0 0, .slice none 0 0, nV 0].toArray ct.toArray 32
      go_upto_region 7 with ((with_reducible show wpList _ _ _ _ _ _); first | (refine wpList_load_mid rfl 32 (.tmp 26) rfl b (o + k * 4) rfl ct _ R.out Tryd.underlying32 rfl (by rw [LC.out]; kernel_rfl) ?_; go_frame) | (refine wpList_store_row rfl 32 (.tmp 5) (.tmp 27) rfl wr.heap.size ct.toArray rfl rfl 32 _ (heap_alloc_new _ _) (by rw [LC'.out]; kernel_rfl) (by rw [LC'.out]; rfl) ONE.out ?_; go_frame))
      rw [← hg5] at f2 f3 f4 ⊢
      generalize hw5 : World.setRow _ _ _ = w5
      have e5 : World.setRow (wr.alloc (.cells [nV 0, .slice none 0 0, .slice none 0 0, nV 0].toArray 32)) g5 ct.toArray = w5 := hw5
      rw [e5] at f2 f4
      rw [hg5] at f4
      have F5 := Lib.hid f2
      have N5 := Lib.hid f4
      have B5 := Lib.hid (B.out.trans (f4.mono B.out.size))
      have G5 := Lib.hid hg5
      clear f2 f3 f4 hg5 hw5 e5
      have C5' := Lib.hid (HC.out.keep N5.out)
      have bs : (A7 ++ txsB (x.txs.take k)).length + (txB t).length ≤ 300000000000 := by
        have h1 := txsB_part GT.out
        have h2 := TL.out
        have h4 := LA7.out
        rw [List.length_append]
        omega
      have BS := Lib.hid bs
      have SZ : Hid (Calls Tryd.prog 56 #[.agg ct.toArray] w5 fun e w' => ∃ v', e = .returned v' ∧ w'.ownsRow w5.heap.size 5 1 v' (txB t).length ((txB t).map bV) ∧ Below w5.heap.size w5 w') := bytes_all t _ w5 (TA.out _ N5.out) (TS.out.1 t (List.mem_of_getElem? GT.out))
      clear bs HC
      go_wp2_with ((with_reducible show wpList _ _ _ _ _ _); (refine wpList_load_row rfl 32 (.tmp 5) rfl g5 rfl 32 ct.toArray (0, 0) _ F5.out Tryd.underlying32 rfl (by rw [LC'.out]; kernel_rfl) ?_; go_frame))
      refine SZ.out.mono ?_
      rintro e w6 ⟨v6, rfl, ho6, hb6⟩
      have P6 : Hid (CopyB w5 w6 v6 (txB t)) := (⟨ho6, hb6⟩ : CopyB w5 w6 v6 (txB t))
      have C6 := Lib.hid (C5'.out.keep hb6)
      obtain ⟨s6, n6, c6, rfl, hn6, _⟩ := P6.out.src.shape'
      clear ho6 hb6 hn6 C5' SZ
      go_upto_region 8 with ((with_reducible show wpList _ _ _ _ _ _); refine wpList_append_g _ rfl (.tmp 28) (.tmp 30) 25 rfl w1.heap.size 5 i0 Tryd.underlying25 hi hz0 hz1 hz2 _ _ _ (by rfl) C6.out.1 (.slice s6 n6 c6) (txB t) (by rfl) P6.out.src (by have := BS.out; omega) C6.out.2.size ?_; intro v7 w7 a1 a2 a3; have C7 := Lib.hid (C6.out.app a1 a2); clear a1 a2 a3; go_frame)
      go_wp2_with fail
      go_roundw
      case rel =>
        refine ⟨k + 1, _, rfl, by omega, by go_num, ?_⟩
        rw [txsB_snoc GT.out, ← List.append_assoc]
        exact C7.out
      case measure => simp [intOf]; omega
    · have hkn : k = n := by omega
      have hge : ¬ (k : Int) < (n : Int) := by omega
      have HE : Hid (A7 ++ txsB (x.txs.take k) = blkB x) := by
        show _ = _
        rw [hkn, NN.out, List.take_length, HA7.out, NN.out]
        rfl
      clear hkn
      go_wp2_with fail
      go_ret
      exact ⟨_, rfl, by have h := HC.out.start B0.out; rw [HE.out] at h; exact h⟩
end Go.Proofs.YtdamhoagiooicaaDoor.Sha

/-
  merkle.Climb tells a way that is none. Nothing that was there turns. Condition: the digests lie where the slice says.
-/
namespace Go.Proofs.YtdamhoagiooicaaDoor.Sha
open Go Go.RowKit
/-- A way that is one. -/
def climbOk (x y : Int) (q : Nat) : Prop := 0 ≤ x ∧ x < y ∧ y ≤ 1048576 ∧ q = rowsN y.toNat
end Go.Proofs.YtdamhoagiooicaaDoor.Sha

/-
  Parts of a row of digests; two digests in a row of their own; the calls that take ways. Conditions: as told.
-/
namespace Go.Proofs.YtdamhoagiooicaaDoor.Sha
open Go Go.RowKit
theorem run_cutS_lh {P : Program} {w : World} (t e : TypeId) (s : Nat) (sp : Option Addr) (n cap l r : Nat) (hu : P.underlying t = some (.slice e)) (hsz : (P.info? e).map (·.size) = some s) (h1 : l ≤ r) (h2 : r ≤ cap) :
    (Instr.sliceAt t (.slice sp n cap) (some (.int .i64 l)) (some (.int .i64 r)) none).run P w = .ok (sliced sp l r cap s) w := by
  obtain ⟨i, hi, hs⟩ := Option.map_eq_some_iff.1 hsz
  have hu' : P.underlying t = some (.slice (P.elem t)) := by rw [elem_of hu]; exact hu
  rw [run_sliceAt_slice _ _ _ _ _ _ hu', run_slice_lh _ _ _ _ _ hu' _ _ _ _ (by omega) (by omega) (by omega), elem_of hu]
  simp [sizeOf, typeInfo, hi, hs, sliced, go_sem]
theorem run_cutS_h {P : Program} {w : World} (t e : TypeId) (s : Nat) (sp : Option Addr) (n cap r : Nat) (hu : P.underlying t = some (.slice e)) (hsz : (P.info? e).map (·.size) = some s) (h2 : r ≤ cap) :
    (Instr.sliceAt t (.slice sp n cap) none (some (.int .i64 r)) none).run P w = .ok (sliced sp 0 r cap s) w := by
  obtain ⟨i, hi, hs⟩ := Option.map_eq_some_iff.1 hsz
  have hu' : P.underlying t = some (.slice (P.elem t)) := by rw [elem_of hu]; exact hu
  rw [run_sliceAt_slice _ _ _ _ _ _ hu', run_slice_h _ _ _ _ _ hu' _ _ (by omega) (by omega), elem_of hu]
  simp [sizeOf, typeInfo, hi, hs, sliced, go_sem]
theorem run_cutS_l {P : Program} {w : World} (t e : TypeId) (s : Nat) (sp : Option Addr) (n cap l : Nat) (hu : P.underlying t = some (.slice e)) (hsz : (P.info? e).map (·.size) = some s) (h1 : l ≤ n) :
    (Instr.sliceAt t (.slice sp n cap) (some (.int .i64 l)) none none).run P w = .ok (sliced sp l n cap s) w := by
  obtain ⟨i, hi, hs⟩ := Option.map_eq_some_iff.1 hsz
  have hu' : P.underlying t = some (.slice (P.elem t)) := by rw [elem_of hu]; exact hu
  rw [run_sliceAt_slice _ _ _ _ _ _ hu', run_slice_l _ _ _ _ _ hu' _ _ (by omega) (by omega), elem_of hu]
  simp [sizeOf, typeInfo, hi, hs, sliced, go_sem]
section
variable {P : Program} {w : World} {ops : Array Oper} {rest : List Oper} {o : Oper} {a : Act} {Q : Exit → Act → World → Prop}
theorem wpList_cutS_lh (hgd : o.guard = none) (t : TypeId) (x lo hi : Operand) (ho : o.op = .slice t x (some lo) (some hi) none) (e : TypeId) (s : Nat) (hu : P.underlying t = some (.slice e)) (hsz : (P.info? e).map (·.size) = some s)
    (sp : Option Addr) (n cap : Nat) (l r : Nat) (hx : a.eval x = .slice sp n cap) (hl : a.eval lo = .int .i64 l) (hr : a.eval hi = .int .i64 r) (h1 : l ≤ r) (h2 : r ≤ cap)
    (h : ∀ v, Hid (v = sliced sp l r cap s) → wpList P ops Q rest (a.put o.dst v) w) : wpList P ops Q (o :: rest) a w := by
  refine wpList_plain hgd fun K hK => ?_
  unfold Oper.wp
  simp [execOp, ho, hx, hl, hr, run_cutS_lh (w := w) t e s sp n cap l r hu hsz h1 h2, Result.andThen]
  exact hK _ _ (h _ rfl)
theorem wpList_cutS_h (hgd : o.guard = none) (t : TypeId) (x hi : Operand) (ho : o.op = .slice t x none (some hi) none) (e : TypeId) (s : Nat) (hu : P.underlying t = some (.slice e)) (hsz : (P.info? e).map (·.size) = some s)
    (sp : Option Addr) (n cap : Nat) (r : Nat) (hx : a.eval x = .slice sp n cap) (hr : a.eval hi = .int .i64 r) (h2 : r ≤ cap)
    (h : ∀ v, Hid (v = sliced sp 0 r cap s) → wpList P ops Q rest (a.put o.dst v) w) : wpList P ops Q (o :: rest) a w := by
  refine wpList_plain hgd fun K hK => ?_
  unfold Oper.wp
  simp [execOp, ho, hx, hr, run_cutS_h (w := w) t e s sp n cap r hu hsz h2, Result.andThen]
  exact hK _ _ (h _ rfl)
theorem yields_cutS_l {S : World → Prop} (hw : Region.wanted o (yielded ops a.tmps) = true) (t : TypeId) (x lo : Operand) (ho : o.op = .slice t x (some lo) none none) (e : TypeId) (s : Nat) (hu : P.underlying t = some (.slice e)) (hsz : (P.info? e).map (·.size) = some s)
    (sp : Option Addr) (n cap l : Nat) (v : Value) (hx : a.eval x = .slice sp n cap) (hl : a.eval lo = .int .i64 l) (h1 : l ≤ n) (hv : v = sliced sp l n cap s) : YieldsIf P ops S o v a :=
  .inl ⟨hw, fun w _ => by simp [execOp, ho, hx, hl, run_cutS_l (w := w) t e s sp n cap l hu hsz h1, Result.andThen, hv]⟩
theorem yields_cutS_h {S : World → Prop} (hw : Region.wanted o (yielded ops a.tmps) = true) (t : TypeId) (x hi : Operand) (ho : o.op = .slice t x none (some hi) none) (e : TypeId) (s : Nat) (hu : P.underlying t = some (.slice e)) (hsz : (P.info? e).map (·.size) = some s)
    (sp : Option Addr) (n cap r : Nat) (v : Value) (hx : a.eval x = .slice sp n cap) (hr : a.eval hi = .int .i64 r) (h2 : r ≤ cap) (hv : v = sliced sp 0 r cap s) : YieldsIf P ops S o v a :=
  .inl ⟨hw, fun w _ => by simp [execOp, ho, hx, hr, run_cutS_h (w := w) t e s sp n cap r hu hsz h2, Result.andThen, hv]⟩
end
theorem wp_slice_two {P : Program} {o : Oper} {a : Act} {w : World} {K : Act → World → Prop} {Q : Exit → Act → World → Prop} (t e : TypeId) (x y : Operand) (ho : o.op = .buildSlice t 2 #[(0, x), (1, y)]) (cs ds : List Value) (hx : a.eval x = .agg cs.toArray) (hy : a.eval y = .agg ds.toArray)
    (hu : P.underlying t = some (.slice e)) (i : TypeInfo) (z : Value) (hi : P.info? e = some i) (hz : i.zero = some z) (hs : i.size = cs.length) (hs2 : i.size = ds.length) (hp : 0 < cs.length) (hm : cs.length ≤ 16777)
    (h : K (a.put o.dst (.slice (some ⟨w.heap.size, 0, none⟩) 2 2)) (w.alloc (.cells (cs ++ ds).toArray e))) : o.wp P a w K Q := by
  refine wp_buildSlice t e 2 _ ho (cs ++ ds).toArray i z hu hi hz (by rw [hs]; omega) (by rw [hs]; omega) ?_ h
  have e1 : (Array.map (fun (q : Nat × Operand) => (q.1, a.eval q.2)) #[(0, x), (1, y)]).toList = [(0, .agg cs.toArray), (1, .agg ds.toArray)] := by simp [hx, hy]
  rw [show (Array.map (fun (i, x) => (i, a.eval x)) #[(0, x), (1, y)]).toList = [(0, .agg cs.toArray), (1, .agg ds.toArray)] from e1, ← Array.toArray_toList (xs := Array.map _ _)]
  exact fill_two i.size _ (by simp) cs ds hs.symm hs2.symm
theorem HsAt.head {w : World} {sp : Option Addr} {n cap : Nat} {l : List (List UInt8)} (h : HsAt w (.slice sp n cap) l) (r : Nat) (h2 : r ≤ n) : HsAt w (sliced sp 0 r cap 32) (l.take r) := by
  have := h.cut 0 r (Nat.zero_le _) h2
  rwa [List.drop_zero] at this
theorem HsAt.tail {w : World} {sp : Option Addr} {n cap : Nat} {l : List (List UInt8)} (h : HsAt w (.slice sp n cap) l) (i : Nat) (h2 : i ≤ n) : HsAt w (sliced sp i n cap 32) (l.drop i) := by
  have := h.cut i n h2 (Nat.le_refl _)
  rwa [List.take_of_length_le (by rw [h.len.1]; exact Nat.le_refl _)] at this
theorem hsL_set : ∀ (l : List (List UInt8)) (k e : Nat) (x : List UInt8) (y : UInt8), HsOk l → l[k]? = some x → e < 32 → (hsL l).set (k * 32 + e) (bV y) = hsL (l.set k (x.set e y))
  | z :: l, 0, e, x, y, ho, hx, he => by
    simp only [List.getElem?_cons_zero, Option.some.injEq] at hx
    subst hx
    rw [Nat.zero_mul, Nat.zero_add, hsL, List.flatMap_cons, List.set_append_left (h := by rw [List.length_map, ho z List.mem_cons_self]; exact he), List.set_cons_zero, hsL, List.flatMap_cons, List.map_set]
  | z :: l, k + 1, e, x, y, ho, hx, he => by
    have ez : (z.map bV).length = 32 := by rw [List.length_map, ho z List.mem_cons_self]
    have ih := hsL_set l k e x y (fun a ha => ho a (List.mem_cons_of_mem _ ha)) (by simpa using hx) he
    rw [hsL] at ih
    rw [hsL, List.flatMap_cons, List.set_append_right (h := by omega), ez, show (k + 1) * 32 + e - 32 = k * 32 + e by omega, ih, List.set_cons_succ, hsL, hsL, List.flatMap_cons]
  | [], _, _, _, _, _, hx, _ => by simp at hx
theorem HsOk.set {l : List (List UInt8)} (h : HsOk l) (k : Nat) {x : List UInt8} (hx : x.length = 32) : HsOk (l.set k x) := fun y hy => by
  rcases List.mem_or_eq_of_mem_set hy with hy | rfl
  · exact h y hy
  · exact hx
/-- A box made and filled. -/
theorem box_filled (w : World) (x : List UInt8) {W : World} (hB : Below W.heap.size W w) : Below W.heap.size W ((w.alloc (.cells (List.replicate 32 (bV 0)).toArray 24)).setRow w.heap.size (x.map bV).toArray)
    ∧ ((w.alloc (.cells (List.replicate 32 (bV 0)).toArray 24)).setRow w.heap.size (x.map bV).toArray).heap[w.heap.size]? = some (.cells (x.map bV).toArray 24 (0, 0))
    ∧ Below w.heap.size w ((w.alloc (.cells (List.replicate 32 (bV 0)).toArray 24)).setRow w.heap.size (x.map bV).toArray) := by
  obtain ⟨h1, h2, _, h3⟩ := fill_setup hB (List.replicate 32 (bV 0)).toArray (x.map bV).toArray 24
  exact ⟨h1, h2, h3⟩
end Go.Proofs.YtdamhoagiooicaaDoor.Sha
