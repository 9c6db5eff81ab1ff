/-
  Texts of this proof joined into one file: UdRead, UdBytes, UdAll, CnSame, UdReadsWalk. What each holds, and under which conditions, its own first sentence tells.
-/
import Derived.Test.YtibfamhhjnaeiaaDoorMg14
import Derived.Test.YtibfamhhjnaeiaaDoorMg05
import Derived.Test.YtibfamhhjnaeiaaDoorMg08
import Derived.Test.YtibfamhhjnaeiaaDoorMg04
import Derived.Test.YtibfamhhjnaeiaaDoorMg07
import Derived.Test.YtibfamhhjnaeiaaDoorMg06
import Derived.Test.YtibfamhhjnaeiaaDoorMg03
import Derived.Test.YtibfamhhjnaeiaaDoorMg02
/-
  Package undo reads what was taken out of bytes. Nothing that was there turns. Conditions: the bytes lie where the slice says; the errors are there.
-/
namespace Go.Proofs.YtibfamhhjnaeiaaDoor.Sha
open Go Go.RowKit
theorem less_raw : Less rawP := (less_take 32).andThen fun _ => (less_le 4).andThen fun _ => (less_le 8).andThen fun _ => (less_take 32).andThen fun _ => (less_le 4).andThen fun _ => (less_take 1).map _
theorem less_sp : Less spP := fun bs c => by
  have h := less_raw bs c
  unfold spP
  split
  · exact h
  · split <;> exact h
theorem many_step {j : Nat} {b b' : List UInt8} {x : TSp} {e : Nat} (h : spP b 0 = (x, b', e)) : manyP spP (j + 1) b 0 = (x :: (manyP spP j b' e).1, (manyP spP j b' e).2) := by
  rw [manyP, if_neg (by simp)]
  simp only [thenP, mapP, h]
theorem many_err {j : Nat} {b : List UInt8} {e : Nat} (he : e ≠ 0) : manyP spP j b e = ([], b, e) := by
  cases j with
  | zero => rfl
  | succ j => rw [manyP, if_pos he]
theorem numEnd_zero (most k : Nat) (u : List UInt8 × List UInt8 × Nat) (h : (numEnd most k u).2.2 ≠ 0) : (numEnd most k u).1 = 0 := by
  unfold numEnd at h ⊢
  split
  · rfl
  · rename_i h1
    rw [if_neg h1] at h
    split
    · rfl
    · rename_i h2
      rw [if_neg h2] at h
      split
      · rfl
      · rename_i h3
        rw [if_neg h3] at h
        exact absurd rfl h
theorem numL_zero {most : Nat} {bs b : List UInt8} {c n d : Nat} (h : numL most bs c = (n, b, d)) (hd : d ≠ 0) : n = 0 := by
  rw [numL_end] at h
  have h2 := numEnd_zero most _ _ (show (numEnd most _ _).2.2 ≠ 0 by rw [h]; exact hd)
  rw [h] at h2
  exact h2
/-- What is read so far, and what is to come. -/
structure UrS (n : Nat) (b2 : List UInt8) (d2 : Nat) (k : Nat) (L : List TSp) (b : List UInt8) (c : Nat) : Prop where
  eq : manyP spP n b2 d2 = (L ++ (manyP spP (n - k) b c).1, (manyP spP (n - k) b c).2)
  fine : k < n → c = 0
  ok : ∀ x ∈ L, SpOk x
  len : L.length = k
def UrInv (E : Nat → Addr) (m r n : Nat) (b2 : List UInt8) (d2 base : Nat) (w w1 : World) (vl vi : Value) (wr : World) : Prop :=
  ∃ (k : Nat) (L : List TSp) (b : List UInt8) (c : Nat) (v : Value), v = vl ∧ k ≤ n ∧ vi = .int .u64 (k : Int) ∧ UrS n b2 d2 k L b c ∧ RdI E m wr r b c ∧ RwOwn 68 33 base wr v (L.map spL) ∧ b.length ≤ 70368744177664 ∧ w1.grownBy wr (some r) ∧ base ≤ wr.heap.size
/-- What Read answers. -/
def UrPost (E : Nat → Addr) (l : List TSp) (d : Nat) (w : World) (e : Ending) (w' : World) : Prop :=
  ∃ v, e = .returned (.tuple #[v, errV E d]) ∧ RwAt 68 w' v (l.map spL) ∧ Below w.heap.size w w'
theorem readU_laid {bs b : List UInt8} {l : List TSp} {d : Nat} (h : unP bs 0 = (l, b, d)) : readU bs = if d ≠ 0 then ([], d) else if b ≠ [] then ([], 2) else (l, 0) := by
  unfold readU
  rw [h]
theorem grown_own {w0 w w' : World} {r : Nat} {q : Option Nat} (h : w0.grownBy w (some r)) (hg : w.grownBy w' q) (ho : ∀ k, q = some k → w0.heap.size ≤ k) : w0.grownBy w' (some r) := by
  cases q with
  | none => exact grownBy_below' h (below_made hg)
  | some k => exact grown_over h hg (.inr ⟨k, rfl, ho k rfl⟩)
theorem RdI.grownQ {E : Nat → Addr} {m : Nat} {w w' : World} {r : Nat} {q : Option Nat} {bs : List UInt8} {c : Nat} (h : RdI E m w r bs c) (hg : w.grownBy w' q) (ho : ∀ k, q = some k → k ≠ r ∧ m ≠ k) : RdI E m w' r bs c := by
  cases q with
  | none => exact h.below (below_made hg)
  | some k => exact h.grown hg (ho k rfl).1 (fun _ => (ho k rfl).2)
set_option maxHeartbeats 2000000 in
set_option maxRecDepth 100000 in
theorem read_un (E : Nat → Addr) (bs : List UInt8) (v : Value) (w : World) (hE : Er w E) (hs : SrcB w v bs) (hl : bs.length ≤ 70368744177664) (l : List TSp) (d : Nat) (hr : readU bs = (l, d)) :
    Calls Tryd.prog 7 #[v] w (UrPost E l d w) := by
  obtain ⟨n, b2, d2, h2⟩ : ∃ n b d, numL 10000 bs 0 = (n, b, d) := ⟨_, _, _, rfl⟩
  have bn : n ≤ 10000 := by have := numL_most 10000 bs 0; rw [h2] at this; exact this
  have hb2 : b2.length ≤ 70368744177664 := by have q := less_num 10000 bs 0; rw [h2] at q; exact Nat.le_trans q hl
  have HU : Hid (unP bs 0 = manyP spP n b2 d2) := by
    show _ = _
    simp only [unP, thenP, h2]
  have HZ : Hid (d2 ≠ 0 → n = 0) := fun hd => numL_zero h2 hd
  obtain ⟨i0, hi, hz0, hz1, hz2⟩ := info_parts info_spent
  have HN2 := Lib.hid h2
  have HB2 := Lib.hid hb2
  have HE := Lib.hid hE
  have HL := Lib.hid hl
  have HS := Lib.hid hs
  have BN := Lib.hid bn
  have HR0 := Lib.hid hr
  clear h2 hb2 hE hl hs hr
  go_enter Tryd.func7, Tryd.ntmps7
  go_wp2_with fail
  refine (read_any E bs v w HS.out HL.out).mono ?_
  rintro e w1 ⟨m0, r, rfl, hr0, b1, hr1, hr2⟩
  obtain ⟨m, hm, hrd⟩ := rd_low hr0 ⟨HE.out.below b1, (HE.out.lt hr1).1, (HE.out.lt hr1).2.1, (HE.out.lt hr1).2.2⟩
  obtain ⟨base, hbase⟩ : ∃ base, base = w1.heap.size := ⟨_, rfl⟩
  have HER : Hid (ErR w1 E r) := ⟨HE.out.below b1, (HE.out.lt hr1).1, (HE.out.lt hr1).2.1, (HE.out.lt hr1).2.2⟩
  have HRd := Lib.hid hrd
  have HM : Hid (m < base) := by show _ < _; omega
  have RB : Hid (r < base) := by show _ < _; have := hrd.lt; omega
  have B1 := Lib.hid b1
  have RW : Hid (w.heap.size ≤ r) := hr1
  have BS : Hid (base = w1.heap.size) := hbase
  clear hr0 hr1 hr2 hm hrd b1 hbase
  go_wp2_with fail
  refine (num_is 10000 n HER.out HRd.out HN2.out).mono ?_
  rintro e w2 ⟨rfl, i1, g1⟩
  have HR2 := Lib.hid i1
  have HG2 := Lib.hid g1
  have WB2 : Hid (base ≤ w2.heap.size) := by show _ ≤ _; rw [BS.out]; exact g1.size
  clear i1 g1
  go_wp2_with fail
  go_loopw [5, 12] (fun vl vi wr => UrInv E m r n b2 d2 base w w1 vl vi wr) (fun _ i _ => n - (intOf i).toNat)
  case atStart =>
    refine ⟨0, [], b2, d2, _, rfl, by omega, rfl, ⟨rfl, fun h => ?_, fun x hx => by simp at hx, rfl⟩, HR2.out, RwOwn.nil _ _ _ _, HB2.out, HG2.out, WB2.out⟩
    exact Classical.byContradiction fun hd => by have := HZ.out hd; omega
  case round =>
    clear HRd HR2 HG2 WB2
    obtain ⟨k, L, b, c, vl, rfl, hk, rfl, hst, hR, hO, hbl, hG, hB⟩ := hrel
    have ST := Lib.hid hst
    have HR := Lib.hid hR
    have HO := Lib.hid hO
    have BL := Lib.hid hbl
    have HG := Lib.hid hG
    have HB := Lib.hid hB
    have LL : Hid (L.length ≤ 10000) := by show _ ≤ _; rw [hst.len]; omega
    clear hst hR hO hbl hG hB
    by_cases hlt : k < n
    · skip
      have LLM : Hid ((L.map spL).length ≤ 10000) := by show _ ≤ _; rw [List.length_map]; exact LL.out
      have OVB : Hid (∀ q, vl.ownBlock = some q → w1.heap.size ≤ q) := fun q hq => by rw [← BS.out]; exact (HO.out.1.lt q hq).1
      have OFF : Hid (∀ q, vl.ownBlock = some q → q ≠ r ∧ m ≠ q) := fun q hq => by
        have h1 := (HO.out.1.lt q hq).1
        have h2 := RB.out
        have h3 := HM.out
        exact ⟨by omega, by omega⟩
      obtain rfl := ST.out.fine hlt
      obtain ⟨x, b', e, hx⟩ : ∃ x b' e, spP b 0 = (x, b', e) := ⟨_, _, _, rfl⟩
      have OX : Hid (SpOk x) := by have := spP_ok b 0; rw [hx] at this; exact this.1
      have BL' : Hid (b'.length ≤ 70368744177664) := by have q := less_sp b 0; rw [hx] at q; exact Nat.le_trans q BL.out
      have EQ : Hid (∀ j, n - k = j + 1 → manyP spP n b2 d2 = (L ++ (x :: (manyP spP j b' e).1), (manyP spP j b' e).2)) := fun j hj => by
        have h := ST.out.eq
        rw [hj, many_step hx] at h
        exact h
      have q0 : (k : Int) < (n : Int) := by omega
      have wk : IntKind.u64.wrap ((k : Int) + 1) = (k : Int) + 1 := u64_stays (by omega)
      have LX : Hid ((spL x).length = 68) := spL_length OX.out
      have ZX : Hid ((spL x).toArray.size = 68) := spL_size OX.out
      have OO : Hid (∀ v ∈ spL x, v.oneCell' = true) := spL_one x
      have HX := Lib.hid hx
      clear hx
      go_wp2_with fail
      refine (take_sp E m b 0 r wr (HER.out.grown HG.out) HR.out (Nat.lt_of_lt_of_le HM.out HB.out) BL.out x b' e HX.out).mono ?_
      rintro en w3 ⟨rfl, ⟨d', i1, i2⟩, g1⟩
      have HR3 := Lib.hid i1
      have HD3 := Lib.hid i2
      have HG3 := Lib.hid (grownBy_trans HG.out g1)
      have HB3 : Hid (base ≤ w3.heap.size) := Nat.le_trans HB.out g1.size
      have HO3 := Lib.hid (HO.out.kept g1 (own_far HO.out.1 RB.out))
      clear i1 i2 g1 HR HG HB HO HX
      obtain ⟨cx, hcx⟩ : ∃ cx, cx = spL x := ⟨_, rfl⟩
      have CX := Lib.hid hcx
      rw [← hcx] at LX ZX OO ⊢
      have OA : Hid (cx.toArray.all (·.oneCell') = true) := all_oneCell_toArray OO.out
      clear hcx
      cases e with
      | succ q =>
        rw [show errV E (q + 1) = .iface 142 (.pointer (some (E q))) from rfl]
        have HX : Hid (l = [] ∧ d = q + 1) := by
          have h := EQ.out (n - k - 1) (by omega)
          rw [many_err (j := n - k - 1) (b := b') (e := q + 1) (by omega)] at h
          have hq := HU.out.trans h
          have h9 := HR0.out
          rw [readU_laid hq, if_pos (by omega)] at h9
          simp only [Prod.mk.injEq] at h9
          exact ⟨h9.1.symm, h9.2.symm⟩
        obtain ⟨rfl, rfl⟩ := HX.out
        go_wp2_with ((with_reducible show wpList _ _ _ _ _ _); (refine wpList_store_row rfl 33 (.tmp 6) (.tmp 17) rfl w3.heap.size cx.toArray rfl rfl 33 _ (heap_alloc_new _ _) (by rw [ZX.out]; kernel_rfl) (by rw [ZX.out]; rfl) OA.out ?_; go_frame))
        go_ret2
        obtain ⟨_, f2, f3, f4⟩ := fill_setup (Below.refl w3.heap.size w3) (spL spZ).toArray cx.toArray 33
        refine ⟨_, rfl, RwAt.nil _ _ _ _, ?_⟩
        · exact (B1.out.grown HG3.out B1.out.size (fun k hk => by cases hk; exact RW.out)).trans (f4.mono (Nat.le_trans B1.out.size (by rw [← BS.out]; exact HB3.out)))
      | zero =>
        rw [show errV E 0 = .nilIface from rfl]
        obtain rfl := HD3.out rfl
        go_upto_region 8 with ((with_reducible show wpList _ _ _ _ _ _); (refine wpList_store_row rfl 33 (.tmp 6) (.tmp 17) rfl w3.heap.size cx.toArray rfl rfl 33 _ (heap_alloc_new _ _) (by rw [ZX.out]; kernel_rfl) (by rw [ZX.out]; rfl) OA.out ?_; go_frame))
        obtain ⟨_, f2, f3, f4⟩ := fill_setup (Below.refl w3.heap.size w3) (spL spZ).toArray cx.toArray 33
        generalize hqw4 : World.setRow _ _ _ = w4
        have ew4 : World.setRow (w3.alloc (.cells (spL spZ).toArray 33)) w3.heap.size cx.toArray = w4 := hqw4
        rw [ew4] at f2 f3 f4
        obtain ⟨g6, hg6⟩ : ∃ g6, g6 = w3.heap.size := ⟨_, rfl⟩
        rw [← hg6] at f2 ⊢
        have F6 := Lib.hid f2
        have Ng6 : Hid (w3.heap.size ≤ g6) := by show _ ≤ _; rw [hg6]; exact Nat.le_refl _
        have HR3 := Lib.hid (HR3.out.below f4)
        have HO3 := Lib.hid (HO3.out.keep f4)
        have HG3 := Lib.hid (grownBy_below' HG3.out f4)
        have HB3 := Lib.hid (Nat.le_trans HB3.out f4.size)
        clear f2 f3 f4 hqw4 ew4 hg6
        clear Ng6
        go_wp2_with ((with_reducible show wpList _ _ _ _ _ _); first | (refine wpList_load_row rfl 33 (.tmp 6) rfl g6 rfl 33 cx.toArray (0, 0) _ F6.out Tryd.underlying33 rfl (by rw [ZX.out]; kernel_rfl) ?_; go_frame) | (refine wpList_slice_one rfl 22 33 (.tmp 23) rfl cx rfl Tryd.underlying22 i0 _ hi hz0 (by rw [hz1, LX.out]) (by rw [LX.out]; omega) (by rw [LX.out]; omega) ?_; have nf := heap_alloc_new w4 (.cells (cx).toArray 33 (0, 0)); have bb := (Below.refl w4.heap.size w4).alloc (Nat.le_refl _) (.cells (cx).toArray 33 (0, 0)); obtain ⟨gn, hgn⟩ : ∃ g, g = w4.heap.size := ⟨_, rfl⟩; generalize hq : World.alloc _ _ = w5; have e2 : w4.alloc (.cells (cx).toArray 33 (0, 0)) = w5 := hq; rw [e2] at nf bb; rw [← hgn] at nf ⊢; have NF := Lib.hid nf; have HR3 := Lib.hid (HR3.out.below bb); have HO3 := Lib.hid (HO3.out.keep bb); have HG3 := Lib.hid (grownBy_below' HG3.out bb); have HB3 := Lib.hid (Nat.le_trans HB3.out bb.size); clear nf bb hq e2 hgn; go_frame) | (go_loud (at_builtin; refine wpList_append_own_at _ rfl _ _ 22 rfl (base) 33 i0 (.agg (spL ⟨⟨List.replicate 32 0, 0⟩, mnZ⟩).toArray) 68 96 Tryd.underlying22 hi hz0 hz1 hz2 (by kernel_rfl) (by decide) vl _ (L.map spL).flatten rfl HO3.out.1 ⟨gn, 0, none⟩ 1 1 (cx) rfl (by rw [LX.out]) (fun j u hj => by rw [Addr.add_mid]; exact range_of_box NF.out j u hj) OO.out (by have := LLM.out; unfold maxLen; omega) (by have := LLM.out; omega) (HB3.out) ?_; intro v8 w8 q1 q2 _ q4; have HO8 : Hid (RwOwn 68 33 (base) w8 v8 ((L.map spL) ++ [cx])) := RwOwn.push HO3.out.2 LX.out q1; have HR8 := Lib.hid (HR3.out.grownQ q2 (OFF.out)); have HG8 := Lib.hid (grown_own HG3.out q2 OVB.out); have HB8 := Lib.hid (Nat.le_trans HB3.out q2.size); clear q1 q2 q4; go_frame)))
        go_roundw
        case rel =>
          refine ⟨k + 1, L ++ [x], b', 0, _, rfl, by omega, by go_num, ⟨?_, fun _ => rfl, ?_, ?_⟩, HR8.out, ?_, BL'.out, HG8.out, HB8.out⟩
          · have h := EQ.out (n - (k + 1)) (by omega)
            rw [h, List.append_assoc]
            rfl
          · intro y hy
            rcases List.mem_append.1 hy with hy | hy
            · exact ST.out.ok y hy
            · rw [List.mem_singleton.1 hy]; exact OX.out
          · rw [List.length_append, ST.out.len]; rfl
          · have h := HO8.out
            rw [CX.out] at h
            rw [List.map_append]
            exact h
        case measure => simp [intOf]; omega
    · skip
      obtain rfl : k = n := by omega
      have EQ : Hid (unP bs 0 = (L, b, c)) := by
        show _ = _
        rw [HU.out, ST.out.eq, Nat.sub_self, manyP, List.append_nil]
      have h9 := HR0.out
      rw [readU_laid EQ.out] at h9
      have H9 := Lib.hid h9
      have BW : Hid (Below w.heap.size w wr) := B1.out.grown HG.out B1.out.size (fun k hk => by cases hk; exact RW.out)
      have ER := (HER.out.grown HG.out).1.2.1
      have EA := err_any E m b c r wr HR.out
      have LA := left_any E m b c r wr HR.out
      clear h9 hlt
      cases c with
      | succ q =>
        change Calls _ _ _ _ (fun e w' => e = .returned (.iface 142 (.pointer (some (E q)))) ∧ wr = w') at EA
        have EA := Lib.hid EA
        have HX : Hid (l = [] ∧ d = q + 1) := by
          have h9 := H9.out
          rw [if_pos (by omega)] at h9
          simp only [Prod.mk.injEq] at h9
          exact ⟨h9.1.symm, h9.2.symm⟩
        obtain ⟨rfl, rfl⟩ := HX.out
        clear LA ER
        go_wp2_with fail
        refine EA.out.mono ?_
        rintro e w' ⟨rfl, rfl⟩
        go_wp2_with fail
        refine EA.out.mono ?_
        rintro e w' ⟨rfl, rfl⟩
        go_wp2_with fail
        go_ret2
        exact ⟨_, rfl, RwAt.nil _ _ _ _, BW.out⟩
      | zero =>
        change Calls _ _ _ _ (fun e w' => e = .returned .nilIface ∧ wr = w') at EA
        have EA := Lib.hid EA
        obtain ⟨nb, hnb⟩ : ∃ nb, nb = b.length := ⟨_, rfl⟩
        rw [← hnb] at LA
        have LA := Lib.hid LA
        have NBL := Lib.hid hnb
        clear hnb
        go_wp2_with fail
        refine EA.out.mono ?_
        rintro e w' ⟨rfl, rfl⟩
        clear EA
        go_wp2_with fail
        refine LA.out.mono ?_
        rintro e w' ⟨rfl, rfl⟩
        clear LA
        by_cases h0 : 0 < nb
        · have h0' : (0 : Int) < (nb : Int) := by omega
          have HX : Hid (l = [] ∧ d = 2) := by
            have h9 := H9.out
            rw [if_neg (by omega), if_pos (fun e => by have h1 := NBL.out; rw [e] at h1; simp at h1; omega)] at h9
            simp only [Prod.mk.injEq] at h9
            exact ⟨h9.1.symm, h9.2.symm⟩
          obtain ⟨rfl, rfl⟩ := HX.out
          go_upto_region 13 with fail
          refine wp_region_held_drew (S := (fun w' => w'.cell? ⟨0, 0, none⟩ = some (errV E 2))) (by kernel_rfl) (ER) (fun hHeld => ?_)
          have BW := Lib.hid (BW.out.trans ((Below.drew (Below.refl _ _)).mono BW.out.size))
          generalize hwd : wr.drew = wd at BW hHeld ⊢
          clear hwd
          refine held_take (i := 0) (v := (errV E 2)) rfl (by kernel_rfl) (by kernel_rfl) (by kernel_rfl) (fun _ _ _ h => h) (yieldsIf_load_one (by rfl) 38 _ rfl 0 (0) rfl _ _ (fun w' hw' => hw') Tryd.underlying38 rfl) hHeld ?_
          go_frame
          refine held_take (i := 1) (v := (.slice none 0 0)) rfl (by kernel_rfl) (by kernel_rfl) (by kernel_rfl) (fun _ _ _ h => h) (Or.inl ⟨by rfl, fun w' _ => by kernel_rfl⟩) hHeld ?_
          go_frame
          refine held_take (i := 2) (v := (errV E 2)) rfl (by kernel_rfl) (by kernel_rfl) (by kernel_rfl) (fun _ _ _ h => h) (Or.inl ⟨by rfl, fun w' _ => by kernel_rfl⟩) hHeld ?_
          go_frame
          refine wpAnyH_done (by kernel_rfl) ?_ _
          clear hHeld
          go_wp2_with fail
          go_ret2
          exact ⟨_, rfl, RwAt.nil _ _ _ _, BW.out⟩
        · have h0' : ¬ (0 : Int) < (nb : Int) := by omega
          have HX : Hid (l = L ∧ d = 0) := by
            have h9 := H9.out
            rw [if_neg (by omega), if_neg (fun h => h (List.eq_nil_of_length_eq_zero (by have h1 := NBL.out; omega)))] at h9
            simp only [Prod.mk.injEq] at h9
            exact ⟨h9.1.symm, h9.2.symm⟩
          obtain ⟨rfl, rfl⟩ := HX.out
          clear ER
          go_wp2_with fail
          go_ret2
          exact ⟨_, rfl, HO.out.at (by decide), BW.out⟩
end Go.Proofs.YtibfamhhjnaeiaaDoor.Sha

/-
  Package undo writes a coin with its place, and all that was taken, into new memory; nothing that was there turns. Conditions: coins as the model has them.
-/
namespace Go.Proofs.YtibfamhhjnaeiaaDoor.Sha
open Go Go.RowKit
set_option maxHeartbeats 2000000 in
set_option maxRecDepth 100000 in
theorem spb_any (x : TSp) (hx : SpOk x) (w : World) :
    Calls Tryd.prog 15 #[.agg (spL x).toArray] w fun e w' => ∃ v', e = .returned v' ∧ w'.ownsRow w.heap.size 5 1 v' (spB x).length ((spB x).map bV) ∧ Below w.heap.size w w' := by
  obtain ⟨i0, hi, hz0, hz1, hz2⟩ := info_parts info_u8
  have LX : Hid ((spL x).length = 68) := spL_length hx
  have LXS : Hid ((spL x).toArray.size = 68) := spL_size hx
  have HE : Hid (spB x = x.at_.h ++ leB x.at_.n 4 ++ leB x.coin.val 8 ++ x.coin.lock ++ leB (hN x.coin.height) 4 ++ [if x.coin.base then 1 else 0]) := rfl
  obtain ⟨bx, hbx⟩ : ∃ bx, bx = spB x := ⟨_, rfl⟩
  rw [← hbx] at HE ⊢
  obtain ⟨h, hh⟩ : ∃ h, h = x.at_.h := ⟨_, rfl⟩
  obtain ⟨n, hn⟩ : ∃ n, n = x.at_.n := ⟨_, rfl⟩
  obtain ⟨z, hz⟩ : ∃ z, z = x.coin.val := ⟨_, rfl⟩
  obtain ⟨lk, hlk⟩ : ∃ lk, lk = x.coin.lock := ⟨_, rfl⟩
  obtain ⟨t, ht⟩ : ∃ t, t = x.coin.height := ⟨_, rfl⟩
  obtain ⟨bb, hbb⟩ : ∃ bb, bb = x.coin.base := ⟨_, rfl⟩
  rw [← hh, ← hn, ← hz, ← hlk, ← ht, ← hbb] at HE
  have R1 : ∀ (W : World) (g : Nat), W.heap[g]? = some (.cells (spL x).toArray 33 (0, 0)) → W.rangeAt g 0 (spL x) := fun W g q => range_of_box q
  have K0 : Hid (∀ (W : World) (g : Nat), W.heap[g]? = some (.cells (spL x).toArray 33 (0, 0)) → SrcB W (.slice (some ⟨g, 0, none⟩) 32 32) h) := fun W g q => by
    rw [hh]
    exact src_range (pt_hash_r (sp_pt (R1 W g q))) hx.1.1.symm (by omega) (Nat.le_refl _)
  have K1 : Hid (∀ (W : World) (g : Nat), W.heap[g]? = some (.cells (spL x).toArray 33 (0, 0)) → W.cell? ⟨g, 32, none⟩ = some (.int .u32 (n : Int))) := fun W g q => by
    rw [hn]
    have := pt_num_r hx.1.1 (sp_pt (R1 W g q))
    rwa [Nat.zero_add] at this
  have K2 : Hid (∀ (W : World) (g : Nat), W.heap[g]? = some (.cells (spL x).toArray 33 (0, 0)) → W.cell? ⟨g, 33, none⟩ = some (.int .u64 (z : Int))) := fun W g q => by
    rw [hz]
    exact mn_val (sp_mn hx (R1 W g q))
  have K3 : Hid (∀ (W : World) (g : Nat), W.heap[g]? = some (.cells (spL x).toArray 33 (0, 0)) → SrcB W (.slice (some ⟨g, 34, none⟩) 32 32) lk) := fun W g q => by
    rw [hlk]
    exact src_range (mn_lock (sp_mn hx (R1 W g q))) hx.2.1.symm (by omega) (Nat.le_refl _)
  have K4 : Hid (∀ (W : World) (g : Nat), W.heap[g]? = some (.cells (spL x).toArray 33 (0, 0)) → W.cell? ⟨g, 66, none⟩ = some (.int .i64 t)) := fun W g q => by
    rw [ht]
    exact mn_height hx.2.1 (sp_mn hx (R1 W g q))
  have K5 : Hid (∀ (W : World) (g : Nat), W.heap[g]? = some (.cells (spL x).toArray 33 (0, 0)) → W.cell? ⟨g, 67, none⟩ = some (.bool bb)) := fun W g q => by
    rw [hbb]
    exact mn_base hx.2.1 (sp_mn hx (R1 W g q))
  have LH : Hid (h.length = 32) := by show _ = _; rw [hh]; exact hx.1.1
  have LL : Hid (lk.length = 32) := by show _ = _; rw [hlk]; exact hx.2.1
  have nb : n ≤ 4294967295 := by rw [hn]; exact hx.1.2
  have NB := Lib.hid nb
  obtain ⟨tn, htn⟩ : ∃ tn, tn = (t % 4294967296).toNat := ⟨_, rfl⟩
  have TE : Hid (leB (hN t) 4 = leB tn 4) := by
    show _ = _
    refine leB_congr 4 _ _ ?_
    rw [htn, hN]
    have e : (256 : Nat) ^ 4 = 4294967296 := rfl
    rw [e]
    omega
  have tm : t % 4294967296 = (tn : Int) := by rw [htn]; omega
  have tw : IntKind.u32.wrap t = (tn : Int) := by rw [IntKind.wrap_u32]; exact tm
  have TW := Lib.hid tw
  have TM := Lib.hid tm
  have TB : Hid (tn ≤ 4294967295) := by show _ ≤ _; omega
  obtain ⟨sx, hsx⟩ : ∃ sx, sx = spL x := ⟨_, rfl⟩
  rw [← hsx] at LX LXS K0 K1 K2 K3 K4 K5 ⊢
  clear hx hh hn hz hlk ht hbb hsx R1 htn hbx tm tw nb
  go_enter Tryd.func15, Tryd.ntmps15
  go_upto_region 1 with fail
  have f0 := heap_alloc_new w (.cells sx.toArray 33 (0, 0))
  have b0 := (Below.refl w.heap.size w).alloc (Nat.le_refl _) (.cells sx.toArray 33 (0, 0))
  generalize hw1 : World.alloc _ _ = w1
  have e1 : w.alloc (.cells sx.toArray 33 (0, 0)) = w1 := hw1
  rw [e1] at f0 b0
  obtain ⟨g0, hg0⟩ : ∃ g0, g0 = w.heap.size := ⟨_, rfl⟩
  rw [← hg0] at f0 ⊢
  have F0 := Lib.hid f0
  have B0 := Lib.hid b0
  clear f0 b0 hw1 e1 hg0
  refine wp_region_held_drew (S := (fun w' => w'.heap[g0]? = some (.cells sx.toArray 33 (0, 0)))) (by kernel_rfl) (row_below F0.out (Below.drew (Below.refl _ _))) (fun hHeld => ?_)
  have B0 := Lib.hid (B0.out.trans ((Below.drew (Below.refl _ _)).mono B0.out.size))
  generalize hwd : w1.drew = wd at B0 hHeld ⊢
  clear hwd
  refine held_take (i := 0) (v := (.pointer (some ⟨g0, 0, none⟩))) rfl (by kernel_rfl) (by kernel_rfl) (by kernel_rfl) (fun _ _ _ h => h) (Or.inl ⟨by rfl, fun w' _ => by kernel_rfl⟩) hHeld ?_
  go_frame
  refine held_take (i := 1) (v := (.pointer (some ⟨g0, 0, none⟩))) rfl (by kernel_rfl) (by kernel_rfl) (by kernel_rfl) (fun _ _ _ h => h) (Or.inl ⟨by rfl, fun w' _ => by kernel_rfl⟩) hHeld ?_
  go_frame
  refine held_take (i := 2) (v := (.slice (some ⟨g0, 0, none⟩) 32 32)) rfl (by kernel_rfl) (by kernel_rfl) (by kernel_rfl) (fun _ _ _ h => h) (Or.inl ⟨by rfl, fun w' _ => by go_simp⟩) hHeld ?_
  go_frame
  refine held_take (i := 3) (v := (.pointer (some ⟨g0, 0, none⟩))) rfl (by kernel_rfl) (by kernel_rfl) (by kernel_rfl) (fun _ _ _ h => h) (Or.inl ⟨by rfl, fun w' _ => by kernel_rfl⟩) hHeld ?_
  go_frame
  refine held_take (i := 4) (v := (.pointer (some ⟨g0, 32, none⟩))) rfl (by kernel_rfl) (by kernel_rfl) (by kernel_rfl) (fun _ _ _ h => h) (Or.inl ⟨by rfl, fun w' _ => by kernel_rfl⟩) hHeld ?_
  go_frame
  refine held_take (i := 5) (v := (.int .u32 (n : Int))) rfl (by kernel_rfl) (by kernel_rfl) (by kernel_rfl) (fun _ _ _ h => h) (yieldsIf_load_one (by rfl) 26 (.tmp 8) rfl g0 (32) rfl _ _ (fun w' hw' => K1.out _ _ hw') Tryd.underlying26 rfl) hHeld ?_
  go_frame
  refine wpAnyH_ready (rs := [6]) (by kernel_rfl) (by simp) (held_cons rfl (fun K hK => ?_) AllReadyH.nil)
  go_simp
  refine (four_any h (some ⟨g0, 0, none⟩) 32 32 n _ (K0.out _ _ hHeld) (by omega) NB.out).mono ?_
  rintro e v1 ⟨rfl, nn⟩
  have NN := Lib.hid (own_base nn.1 B0.out.size)
  have bb := nn.2
  have B2 := Lib.hid (B0.out.trans (bb.mono B0.out.size))
  have HSZ : Hid (w.heap.size ≤ v1.heap.size) := B2.out.size
  clear nn
  have hv1 := row_below hHeld bb
  clear bb hHeld
  go_wp2_with fail
  refine hK.out _ _ hv1 (fun hHeld => ?_)
  clear hK K hv1
  refine held_take (i := 7) (v := (.slice (some ⟨wd.heap.size, 0, none⟩) 36 36)) rfl (by kernel_rfl) (by kernel_rfl) (by kernel_rfl) (fun _ _ _ h => h) (Or.inl ⟨by rfl, fun w' _ => by kernel_rfl⟩) hHeld ?_
  go_frame
  refine wpAnyH_done (by kernel_rfl) ?_ _
  have F2 := Lib.hid hHeld
  clear hHeld
  generalize hgq : wd.heap.size = g2
  rw [hgq] at NN
  clear hgq
  have c2 := K2.out _ _ F2.out
  have S2 := Lib.hid (src_own NN.out)
  go_wp2_with fail
  refine (eight_any (h ++ leB n 4) (some ⟨g2, 0, none⟩) 36 36 z v1 S2.out (by omega)).mono ?_
  rintro e w3 ⟨rfl, nn⟩
  have B3 := Lib.hid (B2.out.trans (nn.2.mono B2.out.size))
  have F3 := Lib.hid (row_below F2.out nn.2)
  have O3 := Lib.hid (own_base nn.1 B2.out.size)
  obtain ⟨g3, hg3⟩ : ∃ g3, g3 = v1.heap.size := ⟨_, rfl⟩
  have GNE : Hid ((Value.slice (some ⟨g3, 0, none⟩) 44 44).ownBlock ≠ some g0) := fun e => by
    have h1 := (Array.getElem?_eq_some_iff.1 F2.out).1
    have h2 : g3 = g0 := Option.some.inj e
    omega
  rw [← hg3] at O3 ⊢
  clear nn hg3 c2 NN S2
  obtain ⟨c4, hc4⟩ : ∃ c4, c4 = h ++ leB n 4 ++ leB z 8 := ⟨_, rfl⟩
  have L4 : Hid (c4.length = 44) := by show _ = _; rw [hc4]; simp [LH.out, leB_length]
  rw [← hc4] at O3
  have C4 := Lib.hid hc4
  have S4 := Lib.hid (K3.out _ _ F3.out)
  clear hc4
  go_upto_region 4 with (at_builtin; go_loud (refine wpList_append_any _ rfl _ _ 35 rfl w.heap.size 5 i0 Tryd.underlying35 hi hz0 hz1 hz2 (.slice (some ⟨g3, 0, none⟩) 44 44) 44 _ rfl O3.out (.slice (some ⟨g0, 34, none⟩) 32 32) lk rfl S4.out (by rw [LL.out]; omega) B3.out.size ?_; intro v5 w5 ho5 hg5; have O5 : Hid (w5.ownsRow w.heap.size 5 1 v5 (c4 ++ lk).length ((c4 ++ lk).map bV)) := (by show w5.ownsRow _ _ _ _ _ _; rw [List.length_append, List.map_append, L4.out]; exact ho5); have B5 := Lib.hid (own_grown B3.out (Nat.le_refl _) B3.out.size O3.out hg5); have F5 := Lib.hid (row_far F3.out hg5 (GNE.out)); clear ho5 hg5; go_frame))
  have c5 := K4.out _ _ F5.out
  have L5 : Hid ((c4 ++ lk).length = 76) := by show _ = _; rw [List.length_append, L4.out, LL.out]
  obtain ⟨sp5, cap5, rfl⟩ : ∃ sp cap, v5 = .slice sp 76 cap := by
    obtain ⟨sp, cap, e⟩ := (src_own O5.out).shape
    exact ⟨sp, cap, by rw [e, L5.out]⟩
  have S5 := Lib.hid (src_own O5.out)
  have tw : IntKind.u32.wrap t = (tn : Int) := TW.out
  have tm : t % 4294967296 = (tn : Int) := TM.out
  go_wp2_with fail
  refine (four_any (c4 ++ lk) sp5 76 cap5 tn w5 S5.out (by omega) TB.out).mono ?_
  rintro e w6 ⟨rfl, nn⟩
  have B6 := Lib.hid (B5.out.trans (nn.2.mono B5.out.size))
  have F6 := Lib.hid (row_below F5.out nn.2)
  have O6 := Lib.hid (own_base nn.1 B5.out.size)
  obtain ⟨g6, hg6⟩ : ∃ g6, g6 = w5.heap.size := ⟨_, rfl⟩
  rw [← hg6] at O6 ⊢
  clear nn hg6 c5 S5 tw tm
  have c6 := K5.out _ _ F6.out
  obtain ⟨c7, hc7⟩ : ∃ c7, c7 = c4 ++ lk ++ leB tn 4 := ⟨_, rfl⟩
  have L7 : Hid (c7.length = 80) := by show _ = _; rw [hc7, List.length_append, L5.out, leB_length]
  rw [← hc7] at O6
  have FIN : Hid (∀ W v, W.ownsRow w.heap.size 5 1 v (80 + 1) (c7.map bV ++ [.int .u8 (bv (if bb then 1 else 0))]) → Below w.heap.size w W → W.ownsRow w.heap.size 5 1 v bx.length (bx.map bV) ∧ Below w.heap.size w W) := fun W v h1 h2 => by
    refine ⟨?_, h2⟩
    have e : bx = c7 ++ [if bb then 1 else 0] := by rw [HE.out, hc7, C4.out, TE.out]
    rw [e, List.length_append, List.map_append, L7.out]
    exact h1
  clear hc7
  cases bb with
  | true =>
    go_wp2_with (at_builtin; refine wpList_append_own _ rfl _ _ 35 rfl w.heap.size 5 i0 (.int .u8 0) 1 1 Tryd.underlying35 hi hz0 hz1 hz2 rfl (by decide) _ 80 _ rfl (O6.out.alloc _) ⟨w6.heap.size, 0, none⟩ 1 1 [.int .u8 1] rfl rfl (cell_one_new _ _ _) (one_u8 _) (by unfold maxLen; omega) (by omega) (by have := B6.out.size; simp; omega) ?_; intro v8 w8 ho8 hg8 _; have O8 := Lib.hid ho8; have B8 := Lib.hid (own_grown (B6.out.alloc B6.out.size _) (Nat.le_refl _) (by have := B6.out.size; simp; omega) (O6.out.alloc _) hg8); clear ho8 hg8; go_frame)
    go_ret
    exact ⟨_, rfl, FIN.out _ _ O8.out B8.out⟩
  | false =>
    go_wp2_with (at_builtin; refine wpList_append_own _ rfl _ _ 35 rfl w.heap.size 5 i0 (.int .u8 0) 1 1 Tryd.underlying35 hi hz0 hz1 hz2 rfl (by decide) _ 80 _ rfl (O6.out.alloc _) ⟨w6.heap.size, 0, none⟩ 1 1 [.int .u8 0] rfl rfl (cell_one_new _ _ _) (one_u8 _) (by unfold maxLen; omega) (by omega) (by have := B6.out.size; simp; omega) ?_; intro v8 w8 ho8 hg8 _; have O8 := Lib.hid ho8; have B8 := Lib.hid (own_grown (B6.out.alloc B6.out.size _) (Nat.le_refl _) (by have := B6.out.size; simp; omega) (O6.out.alloc _) hg8); clear ho8 hg8; go_frame)
    go_ret
    exact ⟨_, rfl, FIN.out _ _ O8.out B8.out⟩
end Go.Proofs.YtibfamhhjnaeiaaDoor.Sha

/-
  Package undo writes all that was taken into new memory; nothing that was there turns. Conditions: coins as the model has them, at most 2^20.
-/
namespace Go.Proofs.YtibfamhhjnaeiaaDoor.Sha
open Go Go.RowKit
theorem flat_take {l : List TSp} {k : Nat} {x : TSp} (h : l[k]? = some x) : (l.take k).flatMap spB ++ spB x = (l.take (k + 1)).flatMap spB := by
  have hk := (List.getElem?_eq_some_iff.1 h).1
  rw [List.take_succ_eq_append_getElem hk, (List.getElem?_eq_some_iff.1 h).2]
  simp
theorem flat_length : ∀ (m : List TSp), (∀ x ∈ m, SpOk x) → (m.flatMap spB).length = 81 * m.length
  | [], _ => rfl
  | x :: m, hm => by
    rw [List.flatMap_cons, List.length_append, spB_length (hm x List.mem_cons_self), flat_length m (fun y hy => hm y (List.mem_cons_of_mem _ hy)), List.length_cons]
    omega
def UbInv (n : Nat) (l : List TSp) (w : World) (vb vi : Value) (wr : World) : Prop :=
  ∃ (k : Nat) (v : Value), v = vb ∧ k ≤ n ∧ vi = .int .i64 (k : Int) ∧ wr.ownsRow w.heap.size 5 1 v (putL n ++ (l.take k).flatMap spB).length ((putL n ++ (l.take k).flatMap spB).map bV) ∧ Below w.heap.size w wr
set_option maxHeartbeats 2000000 in
set_option maxRecDepth 100000 in
theorem unb_any (l : List TSp) (v : Value) (w : World) (hl : RwAt 68 w v (l.map spL)) (ho : ∀ x ∈ l, SpOk x) (hn : l.length ≤ 1048576) :
    Calls Tryd.prog 6 #[v] w fun e w' => ∃ v', e = .returned v' ∧ w'.ownsRow w.heap.size 5 1 v' (unB l).length ((unB l).map bV) ∧ Below w.heap.size w w' := by
  obtain ⟨i0, hi, hz0, hz1, hz2⟩ := info_parts info_u8
  obtain ⟨sp, cap, rfl⟩ := hl.shape
  rw [List.length_map] at hl ⊢
  obtain ⟨n, hnl⟩ : ∃ n, n = l.length := ⟨_, rfl⟩
  have UE : Hid (unB l = putL n ++ l.flatMap spB) := by show _ = _; rw [unB, hnl]
  rw [← hnl] at hl hn ⊢
  have N := Lib.hid hnl
  have HL := Lib.hid hl
  have OK := Lib.hid ho
  have NB := Lib.hid hn
  obtain ⟨ln, hln⟩ : ∃ ln, ln = lenN n := ⟨_, rfl⟩
  have LN : Hid (1 ≤ ln ∧ ln ≤ 9) := by show _ ∧ _; rw [hln]; exact lenN_bd n
  have LNE := Lib.hid hln
  have PA := put_any [] none 0 0 n w (src_none w) (by omega)
  rw [Nat.zero_add, ← hln, List.nil_append] at PA
  have PA := Lib.hid PA
  have LPU : Hid ((putL n).length = ln) := by show _ = _; rw [putL_length, hln]
  have nw : IntKind.u64.wrap (n : Int) = (n : Int) := u64_stays (by omega)
  obtain ⟨pn, hpn⟩ : ∃ pn, pn = putL n := ⟨_, rfl⟩
  have PN := Lib.hid hpn
  rw [← hpn] at PA LPU
  clear hnl hl ho hln hpn
  go_enter Tryd.func6, Tryd.ntmps6
  go_wp2_with fail
  refine PA.out.mono ?_
  rintro e w1 ⟨rfl, nn⟩
  have B1 := Lib.hid nn.2
  have S1 := Lib.hid (src_own nn.1)
  have l1 := LN.out
  obtain ⟨g1, hg1⟩ : ∃ g1, g1 = w.heap.size := ⟨_, rfl⟩
  have G1 : Hid (w.heap.size = g1) := hg1.symm
  rw [← hg1] at S1 ⊢
  clear nn hg1 PA nw
  have m1 : IntKind.i64.wrap (81 * (n : Int)) = 81 * (n : Int) := i64_stays (by omega)
  have m2 : IntKind.i64.wrap ((ln : Int) + 81 * (n : Int)) = (ln : Int) + 81 * (n : Int) := i64_stays (by omega)
  go_upto_region 3 with (at_make; go_loud (refine wpList_make_own _ rfl _ _ 35 rfl g1 5 i0 (.int .u8 0) 1 Tryd.underlying35 hi hz0 hz1 _ _ _ (ln + 81 * n) rfl rfl (by push_cast; omega) (by rw [hz2]; omega) (by unfold maxLen; omega) (by rw [← G1.out]; exact B1.out.size) ?_; intro w2 hown hgrow; have O2 := Lib.hid hown; have B2 := Lib.hid (B1.out.trans ((below_made hgrow).mono B1.out.size)); have S2 := Lib.hid (S1.out.below (below_made hgrow)); clear hown hgrow; go_frame))
  clear m1 m2
  go_upto_region 4 with (at_builtin; go_loud (refine wpList_append_any _ rfl _ _ 35 rfl g1 5 i0 Tryd.underlying35 hi hz0 hz1 hz2 _ 0 _ rfl O2.out (.slice (some ⟨g1, 0, none⟩) ln ln) pn rfl S2.out (by have := LN.out; have := LPU.out; omega) (by rw [← G1.out]; exact B2.out.size) ?_; intro v3 w3 ho3 hg3; have O3 := Lib.hid ho3; have B3 := Lib.hid (B2.out.grown hg3 B2.out.size (fun k hk => by have h := (O2.out.lt k hk).1; rw [← G1.out] at h; exact h)); clear ho3 hg3; go_frame))
  have O3 : Hid (w3.ownsRow w.heap.size 5 1 v3 (putL n ++ (l.take 0).flatMap spB).length ((putL n ++ (l.take 0).flatMap spB).map bV)) := by
    have h := O3.out
    rw [Nat.zero_add, List.nil_append, ← G1.out] at h
    show w3.ownsRow _ _ _ _ _ _
    rw [List.take_zero, List.flatMap_nil, List.append_nil, ← PN.out]
    exact h
  clear S1 S2 O2 B1 B2
  go_wp2_with fail
  go_loopw [4, 23] (fun vb vi wr => UbInv n l w vb vi wr) (fun _ i _ => n - (intOf i).toNat)
  case atStart => exact ⟨0, _, rfl, by omega, rfl, O3.out, B3.out⟩
  case round =>
    clear O3 B3
    obtain ⟨k, vb, rfl, hk, rfl, hO, hb⟩ := hrel
    have HO := Lib.hid hO
    have BB := Lib.hid hb
    clear hO hb
    by_cases hlt : k < n
    · obtain ⟨b, o, rfl, hg⟩ := HL.out.get (by omega)
      obtain ⟨x, hx⟩ : ∃ x, l[k]? = some x := ⟨_, List.getElem?_eq_getElem (by rw [← N.out]; exact hlt)⟩
      have ox := OK.out x (List.mem_of_getElem? hx)
      have RX := Lib.hid (range_below (hg k (spL x) (by rw [List.getElem?_map, hx]; rfl)) BB.out)
      have OX := Lib.hid ox
      have LX : Hid ((spL x).length = 68) := spL_length ox
      have ZX : Hid ((spL x).toArray.size = 68) := spL_size ox
      have OA : Hid ((spL x).toArray.all (·.oneCell') = true) := spL_all x
      have CB : Hid (∀ W, Calls Tryd.prog 15 #[.agg (spL x).toArray] W fun e w' => ∃ v', e = .returned v' ∧ w'.ownsRow W.heap.size 5 1 v' (spB x).length ((spB x).map bV) ∧ Below W.heap.size W w') := fun W => spb_any x ox W
      have LB : Hid ((spB x).length = 81) := spB_length ox
      have TK : Hid (putL n ++ (l.take k).flatMap spB ++ spB x = putL n ++ (l.take (k + 1)).flatMap spB) := by show _ = _; rw [List.append_assoc, flat_take hx]
      have LT : Hid ((putL n ++ (l.take k).flatMap spB).length ≤ 84934656 + 9) := by
        show _ ≤ _
        rw [List.length_append, putL_length, ← LNE.out, flat_length _ (fun y hy => OK.out y (List.mem_of_mem_take hy)), List.length_take]
        have := NB.out
        have := LN.out
        omega
      have p0 : 0 ≤ (k : Int) := by omega
      have q0 : (k : Int) < (n : Int) := by omega
      obtain ⟨cx, hcx⟩ : ∃ cx, cx = spL x := ⟨_, rfl⟩
      rw [← hcx] at RX LX ZX OA CB
      clear hg hx ox hcx
      go_upto_region 7 with ((with_reducible show wpList _ _ _ _ _ _); first | (refine wpList_load_mid rfl 33 (.tmp 25) rfl b (o + k * 68) rfl cx _ RX.out Tryd.underlying33 rfl (by rw [LX.out]; kernel_rfl) ?_; go_frame) | (refine wpList_store_row rfl 33 (.tmp 6) (.tmp 26) rfl wr.heap.size cx.toArray rfl rfl 33 _ (heap_alloc_new _ _) (by rw [ZX.out]; kernel_rfl) (by rw [ZX.out]; rfl) OA.out ?_; go_frame))
      obtain ⟨_, f2, f3, f4⟩ := fill_setup (Below.refl wr.heap.size wr) (spL spZ).toArray cx.toArray 33
      generalize hqw4 : World.setRow _ _ _ = w4
      have ew4 : World.setRow (wr.alloc (.cells (spL spZ).toArray 33)) wr.heap.size cx.toArray = w4 := hqw4
      rw [ew4] at f2 f3 f4
      obtain ⟨g6, hg6⟩ : ∃ g6, g6 = wr.heap.size := ⟨_, rfl⟩
      rw [← hg6] at f2 ⊢
      have F6 := Lib.hid f2
      have Ng6 : Hid (wr.heap.size ≤ g6) := by show _ ≤ _; rw [hg6]; exact Nat.le_refl _
      have HO := Lib.hid (own_kept HO.out f4)
      have BB := Lib.hid (BB.out.trans (f4.mono BB.out.size))
      clear f2 f3 f4 hqw4 ew4 hg6
      clear Ng6
      go_wp2_with ((with_reducible show wpList _ _ _ _ _ _); (refine wpList_load_row rfl 33 (.tmp 6) rfl g6 rfl 33 cx.toArray (0, 0) _ F6.out Tryd.underlying33 rfl (by rw [ZX.out]; kernel_rfl) ?_; go_frame))
      refine (CB.out w4).mono ?_
      rintro e w5 ⟨v5, rfl, o5, b5⟩
      have S5 := Lib.hid (src_own o5)
      have HO := Lib.hid (own_kept HO.out b5)
      have BB := Lib.hid (BB.out.trans (b5.mono BB.out.size))
      obtain ⟨sp5, cap5, rfl⟩ : ∃ sp cap, v5 = .slice sp 81 cap := by
        obtain ⟨sp, cap, e⟩ := (src_own o5).shape
        exact ⟨sp, cap, by rw [e, LB.out]⟩
      clear o5 b5
      obtain ⟨nx, hnx⟩ : ∃ nx, nx = (putL n ++ (l.take k).flatMap spB).length := ⟨_, rfl⟩
      rw [← hnx] at HO LT
      have NX := Lib.hid hnx
      clear hnx
      go_wp2_with (at_builtin; go_loud (refine wpList_append_any _ rfl _ _ 35 rfl w.heap.size 5 i0 Tryd.underlying35 hi hz0 hz1 hz2 vb nx _ rfl HO.out (.slice sp5 81 cap5) (spB x) rfl S5.out (by have := LT.out; have := LB.out; omega) BB.out.size ?_; intro v6 w6 ho6 hg6; have O6 := Lib.hid ho6; have B6 := Lib.hid (own_grown BB.out (Nat.le_refl _) BB.out.size HO.out hg6); clear ho6 hg6; go_frame))
      go_roundw
      case rel =>
        refine ⟨k + 1, _, rfl, by omega, by go_num, ?_, B6.out⟩
        have h := O6.out
        rw [← List.map_append, TK.out, NX.out, ← List.length_append, TK.out] at h
        exact h
      case measure => simp [intOf]; omega
    · obtain rfl : k = n := by omega
      clear hlt
      go_wp2_with fail
      go_ret
      refine ⟨_, rfl, ?_, BB.out⟩
      have h := HO.out
      rw [N.out, List.take_length, ← N.out, ← UE.out] at h
      exact h
end Go.Proofs.YtibfamhhjnaeiaaDoor.Sha

/-
  The statements' own sameness of coins: what is the same is the same. Nothing that was there turns. Conditions: coins as the model has them.
-/
namespace Go.Proofs.YtibfamhhjnaeiaaDoor.Sha
open Go Go.RowKit
set_option maxHeartbeats 1000000 in
set_option maxRecDepth 100000 in
theorem samemn_true (c : TMn) (hc : MnOk c) (w : World) :
    Calls Tryd.prog 40 #[.agg (mnL c).toArray, .agg (mnL c).toArray] w fun e w' => e = .returned (.bool true) ∧ Below w.heap.size w w' := by
  have R1 : ∀ (W : World) (g : Nat), W.heap[g]? = some (.cells (mnL c).toArray 31 (0, 0)) → W.rangeAt g 0 (mnL c) := fun W g q => range_of_box q
  have K0 : Hid (∀ (W : World) (g : Nat), W.heap[g]? = some (.cells (mnL c).toArray 31 (0, 0)) → W.cell? ⟨g, 0, none⟩ = some (.int .u64 (c.val : Int))) := fun W g q => mn_val (R1 W g q)
  have K1 : Hid (∀ (W : World) (g : Nat), W.heap[g]? = some (.cells (mnL c).toArray 31 (0, 0)) → W.rangeAt g 1 (c.lock.map bV)) := fun W g q => by
    have := mn_lock (R1 W g q)
    rwa [Nat.zero_add] at this
  have K2 : Hid (∀ (W : World) (g : Nat), W.heap[g]? = some (.cells (mnL c).toArray 31 (0, 0)) → W.cell? ⟨g, 33, none⟩ = some (.int .i64 c.height)) := fun W g q => by
    have := mn_height hc.1 (R1 W g q)
    rwa [Nat.zero_add] at this
  have K3 : Hid (∀ (W : World) (g : Nat), W.heap[g]? = some (.cells (mnL c).toArray 31 (0, 0)) → W.cell? ⟨g, 34, none⟩ = some (.bool c.base)) := fun W g q => by
    have := mn_base hc.1 (R1 W g q)
    rwa [Nat.zero_add] at this
  have LL : Hid ((c.lock.map bV).length = 32) := by show _ = _; rw [List.length_map, hc.1]
  have LK : Hid (c.lock.length = 32) := hc.1
  obtain ⟨cm, hcm⟩ : ∃ cm, cm = mnL c := ⟨_, rfl⟩
  obtain ⟨z, hz⟩ : ∃ z, z = (c.val : Int) := ⟨_, rfl⟩
  obtain ⟨lk, hlk⟩ : ∃ lk, lk = c.lock := ⟨_, rfl⟩
  obtain ⟨t, ht⟩ : ∃ t, t = c.height := ⟨_, rfl⟩
  obtain ⟨bb, hbb⟩ : ∃ bb, bb = c.base := ⟨_, rfl⟩
  rw [← hcm] at K0 K1 K2 K3 ⊢
  rw [← hz] at K0
  rw [← hlk] at K1 LL LK
  rw [← ht] at K2
  rw [← hbb] at K3
  clear hcm hz hlk ht hbb R1 hc
  go_enter Tryd.func40, Tryd.ntmps40
  go_upto_region 1 with fail
  obtain ⟨B, F, F'⟩ := boxes_two w cm.toArray cm.toArray 31
  generalize hw1 : World.alloc _ _ = w1
  rw [hw1] at B F F'
  have c0 := K0.out _ _ F
  have d0 := K0.out _ _ F'
  have R1 := Lib.hid (K1.out _ _ F)
  have R2 := Lib.hid (K1.out _ _ F')
  have B1 := Lib.hid B
  have F1 := Lib.hid F
  have F2 := Lib.hid F'
  clear B F F' hw1
  go_wp2_with ((with_reducible show wpList _ _ _ _ _ _); first | (refine wpList_load_midG 25 (.tmp 11) rfl w.heap.size 1 rfl (lk.map bV) _ R1.out Tryd.underlying25 rfl (by rw [LL.out]; kernel_rfl) rfl ?_; go_frame) | (refine wpList_load_midG 25 (.tmp 13) rfl (w.heap.size + 1) 1 rfl (lk.map bV) _ R2.out Tryd.underlying25 rfl (by rw [LL.out]; kernel_rfl) rfl ?_; go_frame))
  refine (same_true lk lk rfl LK.out w1).mono ?_
  rintro e w2 ⟨rfl, b2⟩
  have B2 := Lib.hid (B1.out.trans (b2.mono B1.out.size))
  have c1 := K2.out _ _ (row_below F1.out b2)
  have d1 := K2.out _ _ (row_below F2.out b2)
  have c2 := K3.out _ _ (row_below F1.out b2)
  have d2 := K3.out _ _ (row_below F2.out b2)
  clear b2 c0 d0
  go_wp2_with fail
  go_ret
  exact ⟨by simp, B2.out⟩
set_option maxHeartbeats 1000000 in
set_option maxRecDepth 100000 in
theorem samesp1_true (x : TSp) (hx : SpOk x) (w : World) :
    Calls Tryd.prog 21 #[.agg (spL x).toArray, .agg (spL x).toArray] w fun e w' => e = .returned (.bool true) ∧ Below w.heap.size w w' := by
  have SP : Hid (∀ W, Calls Tryd.prog 39 #[.agg (ptC x.at_).toArray, .agg (ptC x.at_).toArray] W fun e w' => e = .returned (.bool true) ∧ Below W.heap.size W w') := fun W => samept_any _ _ _ _ hx.1.1 hx.1.1 true (by simp) W
  have SM : Hid (∀ W, Calls Tryd.prog 40 #[.agg (mnL x.coin).toArray, .agg (mnL x.coin).toArray] W fun e w' => e = .returned (.bool true) ∧ Below W.heap.size W w') := fun W => samemn_true _ hx.2 W
  have K0 : Hid (∀ (W : World) (g : Nat), W.heap[g]? = some (.cells (spL x).toArray 33 (0, 0)) → W.rangeAt g 0 (ptC x.at_)) := fun W g q => sp_pt (range_of_box q)
  have K1 : Hid (∀ (W : World) (g : Nat), W.heap[g]? = some (.cells (spL x).toArray 33 (0, 0)) → W.rangeAt g 33 (mnL x.coin)) := fun W g q => by
    have := sp_mn hx (range_of_box q)
    rwa [Nat.zero_add] at this
  have L0 : Hid ((ptC x.at_).length = 33) := ptC_length hx.1
  have L1 : Hid ((mnL x.coin).length = 35) := mnL_length hx.2
  obtain ⟨sx, hsx⟩ : ∃ sx, sx = spL x := ⟨_, rfl⟩
  obtain ⟨cp, hcp⟩ : ∃ cp, cp = ptC x.at_ := ⟨_, rfl⟩
  obtain ⟨cm, hcm⟩ : ∃ cm, cm = mnL x.coin := ⟨_, rfl⟩
  rw [← hsx] at K0 K1 ⊢
  rw [← hcp] at K0 L0 SP
  rw [← hcm] at K1 L1 SM
  clear hsx hcp hcm hx
  go_enter Tryd.func21, Tryd.ntmps21
  go_upto_region 1 with fail
  obtain ⟨B, F, F'⟩ := boxes_two w sx.toArray sx.toArray 33
  generalize hw1 : World.alloc _ _ = w1
  rw [hw1] at B F F'
  have P1 := Lib.hid (K0.out _ _ F)
  have P2 := Lib.hid (K0.out _ _ F')
  have M1 := Lib.hid (K1.out _ _ F)
  have M2 := Lib.hid (K1.out _ _ F')
  have B1 := Lib.hid B
  clear B F F' hw1
  go_wp2_with ((with_reducible show wpList _ _ _ _ _ _); first | (refine wpList_load_mid rfl 28 (.tmp 5) rfl w.heap.size 0 rfl cp _ P1.out Tryd.underlying28 rfl (by rw [L0.out]; kernel_rfl) ?_; go_frame) | (refine wpList_load_mid rfl 28 (.tmp 7) rfl (w.heap.size + 1) 0 rfl cp _ P2.out Tryd.underlying28 rfl (by rw [L0.out]; kernel_rfl) ?_; go_frame))
  refine (SP.out w1).mono ?_
  rintro e w2 ⟨rfl, b2⟩
  have B2 := Lib.hid (B1.out.trans (b2.mono B1.out.size))
  have M3 := Lib.hid (range_below M1.out b2)
  have M4 := Lib.hid (range_below M2.out b2)
  clear b2
  go_wp2_with ((with_reducible show wpList _ _ _ _ _ _); first | (refine wpList_load_midG 31 (.tmp 11) rfl w.heap.size 33 rfl cm _ M3.out Tryd.underlying31 rfl (by rw [L1.out]; kernel_rfl) rfl ?_; go_frame) | (refine wpList_load_midG 31 (.tmp 13) rfl (w.heap.size + 1) 33 rfl cm _ M4.out Tryd.underlying31 rfl (by rw [L1.out]; kernel_rfl) rfl ?_; go_frame))
  refine (SM.out w2).mono ?_
  rintro e w3 ⟨rfl, b3⟩
  have B3 := Lib.hid (B2.out.trans (b3.mono B2.out.size))
  clear b3
  go_wp2_with fail
  go_ret
  exact ⟨rfl, B3.out⟩
def SsInv (n : Nat) (w : World) (vi : Value) (wr : World) : Prop := ∃ k : Nat, k ≤ n ∧ vi = .int .i64 k ∧ Below w.heap.size w wr
set_option maxHeartbeats 2000000 in
set_option maxRecDepth 100000 in
theorem samesps_true (l : List TSp) (ho : ∀ x ∈ l, SpOk x) (v v' : Value) (w : World) (h1 : RwAt 68 w v (l.map spL)) (h2 : RwAt 68 w v' (l.map spL)) (hn : l.length ≤ 1048576) :
    Calls Tryd.prog 9 #[v, v'] w fun e w' => e = .returned (.bool true) ∧ Below w.heap.size w w' := by
  obtain ⟨sp, cap, rfl⟩ := h1.shape
  obtain ⟨sp', cap', rfl⟩ := h2.shape
  rw [List.length_map] at h1 h2 ⊢
  obtain ⟨n, hnl⟩ : ∃ n, n = l.length := ⟨_, rfl⟩
  rw [← hnl] at h1 h2 hn ⊢
  have N := Lib.hid hnl
  have H1 := Lib.hid h1
  have H2 := Lib.hid h2
  have OK := Lib.hid ho
  clear hnl h1 h2 ho
  go_enter Tryd.func9, Tryd.ntmps9
  have hne : ((n : Int) != (n : Int)) = false := by simp
  go_wp2_with fail
  go_loopw [5] (fun vi wr => SsInv n w vi wr) (fun vi _ => n - (intOf vi).toNat)
  case atStart => exact ⟨0, by omega, rfl, Below.refl _ _⟩
  case round =>
    obtain ⟨k, hk, rfl, hb⟩ := hrel
    have BB := Lib.hid hb
    clear hb
    by_cases hlt : k < n
    · obtain ⟨b, o, rfl, hg⟩ := (H1.out.below BB.out).get (by omega)
      obtain ⟨b', o', rfl, hg'⟩ := (H2.out.below BB.out).get (by omega)
      have hkl : k < l.length := by rw [← N.out]; exact hlt
      obtain ⟨x, hx⟩ : ∃ x, l[k]? = some x := ⟨_, List.getElem?_eq_getElem hkl⟩
      have ox := OK.out x (List.mem_of_getElem? hx)
      have RX := Lib.hid (hg k (spL x) (by rw [List.getElem?_map, hx]; rfl))
      have RY := Lib.hid (hg' k (spL x) (by rw [List.getElem?_map, hx]; rfl))
      have LX : Hid ((spL x).length = 68) := spL_length ox
      have S1 : Hid (∀ W, Calls Tryd.prog 21 #[.agg (spL x).toArray, .agg (spL x).toArray] W fun e w' => e = .returned (.bool true) ∧ Below W.heap.size W w') := fun W => samesp1_true x ox W
      obtain ⟨sx, hsx⟩ : ∃ sx, sx = spL x := ⟨_, rfl⟩
      rw [← hsx] at RX RY LX S1
      have p0 : 0 ≤ (k : Int) := by omega
      have q0 : (k : Int) < (n : Int) := by omega
      clear hg hg' hx ox hkl hsx hne
      go_upto_region 6 with fail
      refine wp_region_held_drew (S := (fun w' => Below wr.heap.size wr w')) (by kernel_rfl) (Below.drew (Below.refl _ _)) (fun hHeld => ?_)
      generalize hwd : wr.drew = wd at  hHeld ⊢
      clear hwd
      refine held_take (i := 0) (v := (.slice (some ⟨b, o, none⟩) n cap)) rfl (by kernel_rfl) (by kernel_rfl) (by kernel_rfl) (fun _ _ _ h => h) (Or.inl ⟨by rfl, fun w' _ => by kernel_rfl⟩) hHeld ?_
      go_frame
      refine held_take (i := 1) (v := (.int .i64 (k : Int))) rfl (by kernel_rfl) (by kernel_rfl) (by kernel_rfl) (fun _ _ _ h => h) (Or.inl ⟨by rfl, fun w' _ => by kernel_rfl⟩) hHeld ?_
      go_frame
      refine held_take (i := 2) (v := (.pointer (some ⟨b, o + k * 68, none⟩))) rfl (by kernel_rfl) (by kernel_rfl) (by kernel_rfl) (fun _ _ _ h => h) (Or.inl ⟨by rfl, fun w' _ => by go_simp⟩) hHeld ?_
      go_frame
      refine held_take (i := 3) (v := (.agg sx.toArray)) rfl (by kernel_rfl) (by kernel_rfl) (by kernel_rfl) (fun _ _ _ h => h) (Sha.yieldsIf_load_mid (by rfl) 33 (.tmp 20) rfl b (o + k * 68) rfl sx _ (fun w' hw' => range_below RX.out hw') Tryd.underlying33 rfl (by rw [LX.out]; kernel_rfl)) hHeld ?_
      go_frame
      refine held_take (i := 4) (v := (.slice (some ⟨b', o', none⟩) n cap')) rfl (by kernel_rfl) (by kernel_rfl) (by kernel_rfl) (fun _ _ _ h => h) (Or.inl ⟨by rfl, fun w' _ => by kernel_rfl⟩) hHeld ?_
      go_frame
      refine held_take (i := 5) (v := (.int .i64 (k : Int))) rfl (by kernel_rfl) (by kernel_rfl) (by kernel_rfl) (fun _ _ _ h => h) (Or.inl ⟨by rfl, fun w' _ => by kernel_rfl⟩) hHeld ?_
      go_frame
      refine held_take (i := 6) (v := (.pointer (some ⟨b', o' + k * 68, none⟩))) rfl (by kernel_rfl) (by kernel_rfl) (by kernel_rfl) (fun _ _ _ h => h) (Or.inl ⟨by rfl, fun w' _ => by go_simp⟩) hHeld ?_
      go_frame
      refine held_take (i := 7) (v := (.agg sx.toArray)) rfl (by kernel_rfl) (by kernel_rfl) (by kernel_rfl) (fun _ _ _ h => h) (Sha.yieldsIf_load_mid (by rfl) 33 (.tmp 24) rfl b' (o' + k * 68) rfl sx _ (fun w' hw' => range_below RY.out hw') Tryd.underlying33 rfl (by rw [LX.out]; kernel_rfl)) hHeld ?_
      go_frame
      refine wpAnyH_ready (rs := [8]) (by kernel_rfl) (by simp) (held_cons rfl (fun K hK => ?_) AllReadyH.nil)
      go_simp
      refine (S1.out _).mono ?_
      rintro e v1 ⟨rfl, bb⟩
      have hv1 := hHeld.trans (bb.mono hHeld.size)
      clear bb hHeld
      go_wp2_with fail
      refine hK.out _ _ hv1 (fun hHeld => ?_)
      clear hK K hv1
      refine held_take (i := 9) (v := (.bool true)) rfl (by kernel_rfl) (by kernel_rfl) (by kernel_rfl) (fun _ _ _ h => h) (Or.inl ⟨by rfl, fun w' _ => by kernel_rfl⟩) hHeld ?_
      go_frame
      refine wpAnyH_done (by kernel_rfl) ?_ _
      have BH := Lib.hid hHeld
      clear hHeld
      go_wp2_with fail
      go_roundw
      case rel => exact ⟨k + 1, by omega, by go_num, BB.out.trans (BH.out.mono BB.out.size)⟩
      case measure => simp [intOf]; omega
    · have hge : ¬ (k : Int) < (n : Int) := by omega
      clear hne
      go_wp2_with fail
      go_ret
      exact ⟨rfl, BB.out⟩
end Go.Proofs.YtibfamhhjnaeiaaDoor.Sha

/-
  The statement on what was taken, read from its bytes, answers true. Nothing that was there turns. Conditions: the coins lie where the slice says; the errors, the table of the rounds' words are there.
-/
namespace Go.Proofs.YtibfamhhjnaeiaaDoor.Sha
open Go Go.RowKit
/-- A coin whose height was brought into its bound. -/
def lowS (x : TSp) : TSp := ⟨x.at_, ⟨x.coin.val, x.coin.lock, numb x.coin.height 1048576, x.coin.base⟩⟩
theorem lowS_low {x : TSp} (h : SpOk x) : Low (lowS x) := by
  have hb := numb_bd x.coin.height 1048576 (by omega)
  refine ⟨⟨h.1, h.2.1, h.2.2.1, ?_, ?_⟩, ?_, ?_⟩
  · show -9223372036854775808 ≤ numb x.coin.height 1048576; omega
  · show numb x.coin.height 1048576 ≤ 9223372036854775807; omega
  · exact hb.1
  · show numb x.coin.height 1048576 ≤ 4294967295; omega
def RdInv (n : Nat) (l : List TSp) (w1 : World) (w : World) (v6 vi : Value) (wr : World) : Prop :=
  ∃ (k : Nat) (tv : Value), tv = v6 ∧ k ≤ n ∧ vi = .int .i64 (k : Int) ∧ RwOwn 68 33 w1.heap.size wr tv (((l.take k).map lowS).map spL) ∧ Below w.heap.size w wr ∧ w1.heap.size ≤ wr.heap.size
set_option maxHeartbeats 1000000 in
set_option maxRecDepth 100000 in
theorem udreads_main (E : Nat → Addr) (l : List TSp) (v : Value) (x1 : Int) (w : World) (hE : Errs w E) (hK : KTab w) (hl : RwAt 68 w v (l.map spL)) (ho : ∀ x ∈ l, SpOk x) (hmax : l.length ≤ 9223372036854775807) (hc : -9223372036854775808 ≤ x1 ∧ x1 ≤ 9223372036854775807) :
    Calls Tryd.prog 3 #[v, .int .i64 x1] w fun e w' => e = .returned (.bool true) ∧ Below w.heap.size w w' := by
  obtain ⟨sp, cap, rfl⟩ := hl.shape
  rw [List.length_map] at hl ⊢
  obtain ⟨n, hnl⟩ : ∃ n, n = l.length := ⟨_, rfl⟩
  rw [← hnl] at hl hmax ⊢
  obtain ⟨i0, hi, hz0, hz1, hz2⟩ := info_parts info_spent
  obtain ⟨i8, hi8, hy0, hy1, hy2⟩ := info_parts info_u8
  have N := Lib.hid hnl
  have HL := Lib.hid hl
  have OK := Lib.hid ho
  have HE := Lib.hid hE
  have HK := Lib.hid hK
  have HC := Lib.hid hc
  clear hnl hl ho hE hK hc
  go_enter Tryd.func3, Tryd.ntmps3
  go_wp2_with fail
  refine (udfirst_any E w HE.out HK.out).mono ?_
  rintro e w1 ⟨rfl, b1⟩
  have B1 := Lib.hid b1
  clear b1
  by_cases hbig : 40 < n
  · have hb' : (40 : Int) < (n : Int) := by omega
    go_wp2_with fail
    go_ret
    exact ⟨rfl, B1.out⟩
  have hb' : ¬ (40 : Int) < (n : Int) := by omega
  have NB : Hid (n ≤ 40) := by show _ ≤ _; omega
  go_wp2_with fail
  go_loopw [6, 7] (fun v6 vi wr => RdInv n l w1 w v6 vi wr) (fun _ i _ => n - (intOf i).toNat)
  case atStart => exact ⟨0, _, rfl, Nat.zero_le _, rfl, RwOwn.nil _ _ _ _, B1.out, Nat.le_refl _⟩
  case round =>
    obtain ⟨k, tv, rfl, hk, rfl, hrw, hb, hsz⟩ := hrel
    have RW := Lib.hid hrw
    have BB := Lib.hid hb
    have SZ := Lib.hid hsz
    clear hrw hb hsz
    by_cases hlt : k < n
    · obtain ⟨b, o, rfl, hg⟩ := HL.out.get (by omega)
      obtain ⟨x, hx⟩ : ∃ x, l[k]? = some x := ⟨_, List.getElem?_eq_getElem (by rw [← N.out]; exact hlt)⟩
      have ox := OK.out x (List.mem_of_getElem? hx)
      have RX := Lib.hid (range_below (hg k (spL x) (by rw [List.getElem?_map, hx]; rfl)) BB.out)
      have OX := Lib.hid ox
      have XK := Lib.hid hx
      have LX : Hid ((spL x).length = 68) := spL_length ox
      have ZX : Hid ((spL x).toArray.size = 68) := spL_size ox
      have XA : Hid ((spL x).toArray.all (·.oneCell') = true) := spL_all x
      have SZ0 := Lib.hid SZ.out
      have RLT : Hid (∀ q, tv.ownBlock = some q → q < wr.heap.size) := fun q hq => (RW.out.1.lt q hq).2
      have WW := Lib.hid BB.out.size
      have WN : Hid (w.heap.size ≤ w1.heap.size) := B1.out.size
      have p0 : 0 ≤ (k : Int) := by omega
      have q0 : (k : Int) < (n : Int) := by omega
      obtain ⟨cx, hcx⟩ : ∃ cx, cx = spL x := ⟨_, rfl⟩
      have CX := Lib.hid hcx
      rw [← hcx] at RX LX ZX XA
      clear hg hx ox hcx
      go_upto_region 11 with ((with_reducible show wpList _ _ _ _ _ _); first | (refine wpList_load_mid rfl 33 (.tmp 31) rfl b ((o + k * 68)) rfl cx _ RX.out Tryd.underlying33 rfl (by rw [LX.out]; kernel_rfl) ?_; go_frame) | (refine wpList_store_row rfl 33 (.tmp 8) (.tmp 32) rfl wr.heap.size cx.toArray rfl rfl 33 _ (heap_alloc_new _ _) (by rw [ZX.out]; kernel_rfl) (by rw [ZX.out]; rfl) XA.out ?_; go_frame))
      obtain ⟨_, f2, f3, f4⟩ := fill_setup (Below.refl wr.heap.size wr) (spL spZ).toArray cx.toArray 33
      generalize hqw4 : World.setRow _ _ _ = w4
      have ew4 : World.setRow (wr.alloc (.cells (spL spZ).toArray 33)) wr.heap.size cx.toArray = w4 := hqw4
      rw [ew4] at f2 f3 f4
      obtain ⟨g8, hg8⟩ : ∃ g8, g8 = wr.heap.size := ⟨_, rfl⟩
      rw [← hg8] at f2 ⊢
      have F8 := Lib.hid f2
      have Ng8 : Hid (wr.heap.size ≤ g8) := by show _ ≤ _; rw [hg8]; exact Nat.le_refl _
      have RW := Lib.hid (RW.out.keep f4)
      have BB := Lib.hid (BB.out.trans (f4.mono BB.out.size))
      have SZ := Lib.hid (Nat.le_trans SZ.out f4.size)
      clear f2 f3 f4 hqw4 ew4 hg8
      have BX : Hid (SpBox w4 g8 x.at_.h x.at_.n x.coin.val x.coin.lock x.coin.height x.coin.base) := ⟨by rw [spC_spL, F8.out, CX.out]⟩
      have G8 : Hid (w1.heap.size ≤ g8 ∧ w.heap.size ≤ g8) := ⟨Nat.le_trans SZ0.out Ng8.out, Nat.le_trans WW.out Ng8.out⟩
      have ch : w4.cell? ⟨g8, 66, none⟩ = some (.int .i64 x.coin.height) := by
        have h := mn_height OX.out.2.1 (sp_mn OX.out (range_of_box (g := g8) (by rw [F8.out, CX.out])))
        rwa [Nat.zero_add] at h
      obtain ⟨ht, hht⟩ : ∃ ht, ht = x.coin.height := ⟨_, rfl⟩
      rw [← hht] at ch
      have HHT := Lib.hid hht
      have hb1 : -9223372036854775808 ≤ ht ∧ ht ≤ 9223372036854775807 := by rw [hht]; exact OX.out.2.2.2
      have NA := Lib.hid (numb_any ht 1048576 (by omega) (by omega) hb1 w4)
      have OG8 : Hid (tv.ownBlock ≠ some g8) := fun e => by have h1 := RLT.out _ e; have h2 := Ng8.out; omega
      clear Ng8 p0 q0 hht hb1
      go_wp2_with fail
      refine NA.out.mono ?_
      rintro e w5 ⟨rfl, rfl⟩
      clear ch NA
      go_upto_region 12 with ((with_reducible show wpList _ _ _ _ _ _); (refine spst_t (g := g8) (h := x.at_.h) (n := x.at_.n) (v := x.coin.val) (k := x.coin.lock) (t := x.coin.height) (e := x.coin.base) rfl (.tmp 38) (.tmp 36) rfl rfl (numb ht 1048576) rfl OX.out.1.1 OX.out.2.1 BX.out ?_; intro w6 q1 q2; have BY := Lib.hid q1; have HQ := Lib.hid q2; clear q1 q2; go_frame))
      have RW := Lib.hid (RW.out.kept HQ.out (.inr OG8.out))
      have BB := Lib.hid (BB.out.grown HQ.out BB.out.size (fun k hk => by cases hk; exact G8.out.2))
      have SZ := Lib.hid (Nat.le_trans SZ.out HQ.out.size)
      obtain ⟨cy, hcy⟩ : ∃ cy, cy = spL (lowS x) := ⟨_, rfl⟩
      have CY := Lib.hid hcy
      have F8 : Hid (w6.heap[g8]? = some (.cells cy.toArray 33 (0, 0))) := by
        have h := BY.out.row
        rw [spC_spL, HHT.out] at h
        show _ = _
        rw [hcy]
        exact h
      have LY : Hid (cy.length = 68) := by show _ = _; rw [hcy]; exact spL_length (lowS_low OX.out).1
      have ZY : Hid (cy.toArray.size = 68) := by show _ = _; rw [hcy]; exact spL_size (lowS_low OX.out).1
      have YO : Hid (∀ v ∈ cy, v.oneCell' = true) := by rw [hcy]; exact spL_one _
      have DL : Hid ((((l.take k).map lowS).map spL).length ≤ 40) := by show _ ≤ _; rw [List.length_map, List.length_map, List.length_take]; have := NB.out; omega
      clear HQ BY hcy BX
      obtain ⟨LL, hLL⟩ : ∃ LL, LL = ((l.take k).map lowS).map spL := ⟨_, rfl⟩
      have LLE := Lib.hid hLL
      rw [← hLL] at RW DL
      clear hLL
      go_wp2_with ((with_reducible show wpList _ _ _ _ _ _); first | (refine wpList_load_row rfl 33 (.tmp 8) rfl g8 rfl 33 cy.toArray (0, 0) _ F8.out Tryd.underlying33 rfl (by rw [ZY.out]; kernel_rfl) ?_; go_frame) | (refine wpList_slice_one rfl 22 33 (.tmp 40) rfl cy rfl Tryd.underlying22 i0 _ hi hz0 (by rw [hz1, LY.out]) (by rw [LY.out]; omega) (by rw [LY.out]; omega) ?_; have nf := heap_alloc_new w6 (.cells (cy).toArray 33 (0, 0)); have bb := (Below.refl w6.heap.size w6).alloc (Nat.le_refl _) (.cells (cy).toArray 33 (0, 0)); obtain ⟨gn, hgn⟩ : ∃ g, g = w6.heap.size := ⟨_, rfl⟩; generalize hq : World.alloc _ _ = w7; have e2 : w6.alloc (.cells (cy).toArray 33 (0, 0)) = w7 := hq; rw [e2] at nf bb; rw [← hgn] at nf ⊢; have NF := Lib.hid nf; have BB := Lib.hid (BB.out.trans (bb.mono BB.out.size)); have SZ := Lib.hid (Nat.le_trans SZ.out bb.size); have RW := Lib.hid (RW.out.keep bb); clear nf bb hq e2 hgn; go_frame) | (at_builtin; refine wpList_append_own_at _ rfl _ _ 22 rfl (w1.heap.size) 33 i0 (.agg (spL ⟨⟨List.replicate 32 0, 0⟩, mnZ⟩).toArray) 68 96 Tryd.underlying22 hi hz0 hz1 hz2 (by kernel_rfl) (by decide) tv _ (LL).flatten rfl RW.out.1 ⟨gn, 0, none⟩ 1 1 (cy) rfl (by rw [LY.out]) (fun j u hj => by rw [Addr.add_mid]; exact range_of_box NF.out j u hj) YO.out (by have := DL.out; unfold maxLen; omega) (by have := DL.out; omega) (SZ.out) ?_; intro v8 w8 q1 q2 _ q4; have RW8 : Hid (RwOwn 68 33 (w1.heap.size) w8 v8 ((LL) ++ [cy])) := RwOwn.push RW.out.2 LY.out q1; have B8 := Lib.hid (own_grown BB.out WN.out BB.out.size (own_base RW.out.1 (Nat.le_refl _)) q2); have SZ8 := Lib.hid (Nat.le_trans SZ.out q2.size); clear q1 q2 q4; go_frame))
      go_roundw
      case rel =>
        refine ⟨k + 1, _, rfl, by omega, by go_num, ?_, B8.out, SZ8.out⟩
        have h := RW8.out
        have hkl := (List.getElem?_eq_some_iff.1 XK.out).1
        rw [LLE.out, CY.out] at h
        rw [List.take_succ_eq_append_getElem hkl, (List.getElem?_eq_some_iff.1 XK.out).2, List.map_append, List.map_append]
        exact h
      case measure => simp [intOf]; omega
    · skip
      obtain rfl : k = n := by omega
      obtain ⟨L, hL⟩ : ∃ L, L = l.map lowS := ⟨_, rfl⟩
      have LOW : Hid (∀ x ∈ L, Low x) := fun x hx => by
        rw [hL] at hx
        obtain ⟨y, hy, rfl⟩ := List.mem_map.1 hx
        exact lowS_low (OK.out y hy)
      have LOK : Hid (∀ x ∈ L, SpOk x) := fun x hx => (LOW.out x hx).1
      have LEN : Hid (L.length = k) := by show _ = _; rw [hL, List.length_map]; exact N.out.symm
      have RW : Hid (RwOwn 68 33 w1.heap.size wr tv (L.map spL)) := by
        have h := RW.out
        rw [N.out, List.take_length, ← hL] at h
        exact h
      have RA := Lib.hid (RW.out.at (by decide))
      have UB := Lib.hid (unB_length LOK.out)
      have UB : Hid ((unB L).length = 1 + 81 * k) := by
        show _ = _
        have h := UB.out
        have h1 : lenN k = 1 := by unfold lenN; rw [if_pos (by have := NB.out; omega)]
        rw [LEN.out, h1] at h
        exact h
      clear hlt hL RW
      obtain ⟨spm, capm, hsh⟩ := RA.out.shape
      subst hsh
      have RA : Hid (RwAt 68 wr (.slice spm k capm) (L.map spL)) := by
        have h := RA.out
        rw [List.length_map, LEN.out] at h
        exact h
      rw [List.length_map, LEN.out]
      go_wp2_with fail
      refine (unb_any L _ wr RA.out LOK.out (by rw [LEN.out]; have := NB.out; omega)).mono ?_
      rintro e w2 ⟨v9, rfl, o9, b9⟩
      have RA := Lib.hid (RA.out.below b9)
      have BB := Lib.hid (BB.out.trans (b9.mono BB.out.size))
      have S9 := Lib.hid (src_own o9)
      obtain ⟨sp9, cap9, hv9⟩ := (src_own o9).shape
      subst hv9
      rw [UB.out] at S9 ⊢
      clear b9 o9
      have m1 : IntKind.i64.wrap (81 * (k : Int)) = 81 * (k : Int) := i64_stays (by omega)
      have m2 : IntKind.i64.wrap (1 + 81 * (k : Int)) = 1 + 81 * (k : Int) := i64_stays (by omega)
      obtain ⟨bn, hbn⟩ : ∃ bn, bn = 1 + 81 * k := ⟨_, rfl⟩
      have BN := Lib.hid hbn
      have bi : (bn : Int) = 1 + 81 * (k : Int) := by omega
      rw [← hbn] at S9 UB ⊢
      obtain ⟨ub, hub⟩ : ∃ ub, ub = unB L := ⟨_, rfl⟩
      rw [← hub] at S9 UB
      have UBE := Lib.hid hub
      have hmost : bn ≤ 4000 := by have := NB.out; omega
      have BM := Lib.hid hmost
      clear hbn hub
      have KL : Hid (L.length ≤ 10000) := by show _ ≤ _; rw [LEN.out]; have := NB.out; omega
      have EE : Hid (∀ W, Below w.heap.size w W → Er W E) := fun W hW => (HE.out.below hW).er
      go_wp2_with fail
      refine (read_un E ub _ w2 (EE.out _ BB.out) S9.out (by rw [UB.out]; omega) L 0 (by rw [UBE.out]; exact readU_own LOW.out KL.out)).mono ?_
      rintro e w3 ⟨v10, rfl, hr, bb⟩
      rw [show errV E 0 = .nilIface from rfl]
      have RA := Lib.hid (RA.out.below bb)
      have S9 := Lib.hid (S9.out.below bb)
      have BB := Lib.hid (BB.out.trans (bb.mono BB.out.size))
      have R10 := Lib.hid hr
      obtain ⟨sp10, cap10, h10⟩ := hr.shape
      subst h10
      have R10 : Hid (RwAt 68 w3 (.slice sp10 k cap10) (L.map spL)) := by
        have h := R10.out
        rw [List.length_map, LEN.out] at h
        exact h
      rw [List.length_map, LEN.out]
      clear hr bb m1 m2 bi
      obtain ⟨r, hr, hrn⟩ := numb_nat x1 bn (by have := BN.out; omega)
      have NA := numb_any x1 (bn : Int) (by have := BN.out; omega) (by have := BM.out; omega) HC.out w3
      rw [hr] at NA
      have NA := Lib.hid NA
      have HRN := Lib.hid hrn
      clear hr hrn
      go_wp2_with fail
      refine NA.out.mono ?_
      rintro e w4 ⟨rfl, rfl⟩
      clear NA
      go_wp2_with ((with_reducible show wpList _ _ _ _ _ _); (refine wpList_cut_h rfl 35 (.tmp 58) (.tmp 62) rfl 5 Tryd.underlying35 (by kernel_rfl) sp9 bn cap9 r rfl rfl (by have := HRN.out; have := S9.out.le.2; omega) ?_; intro vc hvc; go_frame))
      have SC : Hid (SrcB w3 vc (ub.take r)) := by rw [hvc.out]; exact src_head S9.out r (by have := HRN.out; omega)
      clear hvc
      refine (read_un E (ub.take r) _ w3 (EE.out _ BB.out) SC.out (by rw [List.length_take, UB.out]; omega) [] 1 (by rw [UBE.out]; exact readU_cut LOW.out KL.out (by rw [← UBE.out, UB.out]; exact HRN.out))).mono ?_
      rintro e w4 ⟨v12, rfl, _, bb⟩
      have RA := Lib.hid (RA.out.below bb)
      have S9 := Lib.hid (S9.out.below bb)
      have R10 := Lib.hid (R10.out.below bb)
      have BB := Lib.hid (BB.out.trans (bb.mono BB.out.size))
      clear bb SC
      go_wp2_with fail
      refine (bytes_copy_any ub sp9 bn cap9 w4 S9.out (by omega)).mono ?_
      rintro e w5 ⟨rfl, o5, bb⟩
      have B45 := Lib.hid bb
      have O5 := Lib.hid o5
      have W45 : Hid (w4.heap.size ≤ w5.heap.size) := bb.size
      obtain ⟨g5, hg5⟩ : ∃ g5, g5 = w4.heap.size := ⟨_, rfl⟩
      have B5 := Lib.hid (BB.out.trans (bb.mono BB.out.size))
      have WG : Hid (w.heap.size ≤ g5) := by show _ ≤ _; rw [hg5]; exact BB.out.size
      have GE : Hid (w4.heap.size ≤ g5) := by show _ ≤ _; rw [hg5]; exact Nat.le_refl _
      rw [← hg5] at O5 W45 ⊢
      clear bb o5 hg5 BB S9
      go_wp2_with (at_builtin; go_loud (refine wpList_append_own _ rfl _ _ 35 rfl g5 5 i8 (.int .u8 0) 1 1 Tryd.underlying35 hi8 hy0 hy1 hy2 rfl (by decide) _ bn _ rfl (O5.out.alloc _) ⟨w5.heap.size, 0, none⟩ 1 1 [.int .u8 0] rfl rfl (cell_one_new _ _ _) (one_u8 _) (by unfold maxLen; omega) (by omega) (by have := W45.out; simp; omega) ?_; intro v8 w8 ho8 hg8 _; have O8 := Lib.hid ho8; have B8 := Lib.hid (own_grown (B5.out.alloc B5.out.size _) WG.out (by have := W45.out; have := B5.out.size; simp; omega) (O5.out.alloc _) hg8); have B48 := Lib.hid (own_grown (B45.out.alloc B45.out.size _) GE.out (by have := B45.out.size; simp; omega) (O5.out.alloc _) hg8); clear ho8 hg8; go_frame))
      have S8 : Hid (SrcB w8 v8 (ub ++ [0])) := by
        have h := O8.out
        have e : ub.map bV ++ [Value.int .u8 0] = (ub ++ [(0 : UInt8)]).map bV := by rw [List.map_append]; rfl
        rw [e] at h
        exact src_own h
      refine (read_un E (ub ++ [0]) _ w8 (EE.out _ B8.out) S8.out (by rw [List.length_append, UB.out]; simp; omega) [] 2 (by rw [UBE.out]; exact readU_long LOW.out KL.out (by simp))).mono ?_
      rintro e w9 ⟨v14, rfl, _, bb⟩
      have RA := Lib.hid ((RA.out.below B48.out).below bb)
      have R10 := Lib.hid ((R10.out.below B48.out).below bb)
      have BB := Lib.hid (B8.out.trans (bb.mono B8.out.size))
      clear bb S8 O8 B8 B48 B45 O5 B5
      go_wp2_with fail
      refine (samesps_true L LOK.out _ _ w9 R10.out RA.out (by have := KL.out; omega)).mono ?_
      rintro e w10 ⟨rfl, bb⟩
      have BB := Lib.hid (BB.out.trans (bb.mono BB.out.size))
      clear bb
      go_wp2_with fail
      refine (is_any E 1 101 true rfl w10 (HE.out.below BB.out) (by omega)).mono ?_
      rintro e w11 ⟨rfl, bb⟩
      have BB := Lib.hid (BB.out.trans (bb.mono BB.out.size))
      clear bb
      go_wp2_with fail
      refine (is_any E 2 102 true rfl w11 (HE.out.below BB.out) (by omega)).mono ?_
      rintro e w12 ⟨rfl, bb⟩
      have BB := Lib.hid (BB.out.trans (bb.mono BB.out.size))
      clear bb
      go_wp2_with fail
      go_ret
      exact ⟨rfl, BB.out⟩
end Go.Proofs.YtibfamhhjnaeiaaDoor.Sha
