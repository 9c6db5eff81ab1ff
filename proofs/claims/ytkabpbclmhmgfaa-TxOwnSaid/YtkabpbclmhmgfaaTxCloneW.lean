/-
  Package tx copies a transaction: all of the copy is new, and each key lies by itself. Nothing that was there turns. Condition: a transaction of a few inputs and outputs that lies in memory.
-/
import Derived.Test.YtkabpbclmhmgfaaTxCloneA
namespace Go.Proofs.Ytkabpbclmhmgfaa.Sha
open Go Go.RowKit

/-- A copy's inputs: rows and keys of its own, each by itself. -/
def CloneIns (base base2 : Nat) (w : World) (iv : Value) (l : List TIn) (ks : List Value) : Prop :=
  l.length = ks.length ∧ InsOk l ∧ w.ownsRow base 36 35 iv l.length (insL l ks) ∧ base ≤ base2 ∧ (∀ g, iv.ownBlock = some g → g < base2)
    ∧ (∀ (i : Nat) x kv, l[i]? = some x → ks[i]? = some kv → w.ownsRow base2 5 1 kv x.key.length (x.key.map bV))
    ∧ (∀ (i j : Nat) kv kv', i ≠ j → ks[i]? = some kv → ks[j]? = some kv' → ∀ g, kv.ownBlock = some g → Off kv' (some g))
theorem CloneIns.own {base base2 : Nat} {w : World} {iv : Value} {l : List TIn} {ks : List Value} (h : CloneIns base base2 w iv l ks) : InsOwn base w iv l ks := by
  obtain ⟨h1, h2, h3, h4, h5, h6, _⟩ := h
  refine ⟨h1, h3, h2, fun i x kv hx hk => ?_⟩
  have ho := h6 i x kv hx hk
  have hs := src_own ho
  obtain ⟨sp, cap, e⟩ := hs.shape
  refine ⟨⟨hs, sp, cap, e⟩, fun q hq => own_off ho (Nat.lt_of_lt_of_le hq h4), ?_⟩
  cases hb : iv.ownBlock with
  | none => exact Off.none kv
  | some g => exact own_off ho (h5 g hb)
theorem CloneIns.keep {base base2 : Nat} {w w' : World} {iv : Value} {l : List TIn} {ks : List Value} (h : CloneIns base base2 w iv l ks) (hb : Below w.heap.size w w') : CloneIns base base2 w' iv l ks :=
  ⟨h.1, h.2.1, own_kept h.2.2.1 hb, h.2.2.2.1, h.2.2.2.2.1, fun i x kv hx hk => own_kept (h.2.2.2.2.2.1 i x kv hx hk) hb, h.2.2.2.2.2.2⟩
theorem CloneIns.other {base base2 q : Nat} {w w' : World} {iv : Value} {l : List TIn} {ks : List Value} (h : CloneIns base base2 w iv l ks) (hg : w.grownBy w' (some q)) (hq : q < base) : CloneIns base base2 w' iv l ks :=
  ⟨h.1, h.2.1, h.2.2.1.kept hg (own_far h.2.2.1 hq), h.2.2.2.1, h.2.2.2.2.1, fun i x kv hx hk => (h.2.2.2.2.2.1 i x kv hx hk).kept hg (own_far (h.2.2.2.2.2.1 i x kv hx hk) (Nat.lt_of_lt_of_le hq h.2.2.2.1)), h.2.2.2.2.2.2⟩
/-- A copy's two rows. -/
def CloneAt (base base2 base3 : Nat) (w : World) (iv ov : Value) (t : TTx) (ks : List Value) : Prop := CloneIns base base2 w iv t.ins ks ∧ OutsOwn base3 w ov t.outs ∧ base ≤ base3 ∧ InsLow base3 iv ks
def ClnPost (t : TTx) (w : World) (e : Ending) (w' : World) : Prop :=
  ∃ iv ov ks base base2 base3, e = .returned (.agg (txL t iv ov).toArray) ∧ Below w.heap.size w w' ∧ w.heap.size ≤ base ∧ CloneAt base base2 base3 w' iv ov t ks
def ClInv (base base2 ni : Nat) (g1 g2 vt tt : Nat) (iv : Value) (so : Option Addr) (no co : Nat) (t : TTx) (ks0 : List Value) (w : World) (vi : Value) (wr : World) : Prop :=
  ∃ (k : Nat) (ks : List Value), k ≤ ni ∧ vi = .int .i64 k ∧ t.ins.length = ks.length ∧ wr.ownsRow base 36 35 iv ni (insL t.ins ks)
    ∧ (∀ (i : Nat) x kv, i < k → t.ins[i]? = some x → ks[i]? = some kv → wr.ownsRow base2 5 1 kv x.key.length (x.key.map bV))
    ∧ (∀ (i j : Nat) kv kv', i < k → j < k → i ≠ j → ks[i]? = some kv → ks[j]? = some kv' → ∀ g, kv.ownBlock = some g → Off kv' (some g))
    ∧ (∀ i, k ≤ i → ks[i]? = ks0[i]?) ∧ wr.heap[g1]? = some (.cells [nV vt, iv, .slice so no co, nV tt].toArray 26 (0, 0)) ∧ wr.heap[g2]? = some (.cells [nV 0, .slice none 0 0, .slice none 0 0, nV 0].toArray 26 (0, 0)) ∧ Below w.heap.size w wr ∧ base2 ≤ wr.heap.size
set_option maxHeartbeats 4000000 in
set_option maxRecDepth 100000 in
theorem clone_tx (t : TTx) (v : Value) (w : World) (h1 : TxAt w v t) (hs : TxSmall t) : Calls Try.prog 6 #[v] w (ClnPost t w) := by
  obtain ⟨ht0, iv0, ov0, rfl, hti, hto⟩ := h1
  obtain ⟨ks0, hl0, hok, hk0, si, ci, rfl, hr0⟩ := insAt_keys hti
  obtain ⟨so, co, rfl, hco, hor⟩ := hto
  obtain ⟨ni, hn1⟩ : ∃ ni, ni = t.ins.length := ⟨_, rfl⟩
  obtain ⟨no, hn2⟩ : ∃ no, no = t.outs.length := ⟨_, rfl⟩
  obtain ⟨vt, hvt⟩ : ∃ vt, vt = t.ver := ⟨_, rfl⟩
  obtain ⟨tt, htt⟩ : ∃ tt, tt = t.time := ⟨_, rfl⟩
  have VT := Lib.hid hvt
  have TT := Lib.hid htt
  have NI := Lib.hid hn1
  have NO := Lib.hid hn2
  have TS := Lib.hid hs
  have bni : ni ≤ 1000 := by rw [hn1]; exact hs.2.1
  have bno : no ≤ 1000 := by rw [hn2]; exact hs.2.2.1
  have HV : Hid (∃ sp cap, (Value.slice si ni ci) = .slice sp ni cap ∧ (0 < ni → ni ≤ cap ∧ ∃ b o, sp = some ⟨b, o, none⟩ ∧ w.rangeAt b o (insL t.ins ks0))) := ⟨si, ci, rfl, by rw [hn1]; exact hr0⟩
  have HVO : Hid (∀ w', Below w.heap.size w w' → ∃ sp cap, (Value.slice so no co) = .slice sp no cap ∧ (0 < no → no ≤ cap ∧ ∃ b o, sp = some ⟨b, o, none⟩ ∧ w'.rangeAt b o (outsL t.outs))) := fun w' hw' => ⟨so, co, rfl, fun h0 => by
    obtain ⟨b, o, e, hr⟩ := hor (by rw [← hn2]; exact h0)
    exact ⟨by rw [hn2]; exact hco, b, o, e, outsL_read t.outs o hs.1.2.2.1 (fun i y hy => range_below (hr i y hy).2 hw')⟩⟩
  have L0 := Lib.hid hl0
  have OK := Lib.hid hok
  have KA := Lib.hid hk0
  have ONES := Lib.hid (keys_ones hl0 hk0)
  have LIN : Hid ((insL t.ins ks0).length = ni * 35) := by show _ = _; rw [insL_length t.ins ks0 hl0 hok, hn1]
  have LOUT : Hid ((outsL t.outs).length = no * 33) := by show _ = _; rw [outsL_length t.outs hs.1.2.2.1, hn2]
  simp only [txL, ← hn1, ← hn2, ← hvt, ← htt]
  clear hn1 hn2 hvt htt ht0 hti hl0 hok hk0 hr0 hor hco hs
  go_enter Try.func6, Try.ntmps6
  go_upto_region 1 with fail
  have f1 := row_below (heap_alloc_new w (.cells [nV vt, .slice si ni ci, .slice so no co, nV tt].toArray 26 (0, 0))) ((Below.refl _ _).alloc (Nat.le_refl _) (.cells [nV 0, .slice none 0 0, .slice none 0 0, nV 0].toArray 26 (0, 0)))
  have f2 := heap_alloc_new (w.alloc (.cells [nV vt, .slice si ni ci, .slice so no co, nV tt].toArray 26 (0, 0))) (.cells [nV 0, .slice none 0 0, .slice none 0 0, nV 0].toArray 26 (0, 0))
  have b1 := ((Below.refl w.heap.size w).alloc (Nat.le_refl _) (.cells [nV vt, .slice si ni ci, .slice so no co, nV tt].toArray 26 (0, 0))).alloc (by simp) (.cells [nV 0, .slice none 0 0, .slice none 0 0, nV 0].toArray 26 (0, 0))
  rw [World.size_alloc] at f2
  generalize hw1 : World.alloc _ _ = w1
  have e1 : (w.alloc (.cells [nV vt, .slice si ni ci, .slice so no co, nV tt].toArray 26 (0, 0))).alloc (.cells [nV 0, .slice none 0 0, .slice none 0 0, nV 0].toArray 26 (0, 0)) = w1 := hw1
  rw [e1] at f1 f2 b1
  obtain ⟨g2, hg2⟩ : ∃ g2, g2 = w.heap.size + 1 := ⟨_, rfl⟩
  rw [← hg2] at f2 ⊢
  have F1 := Lib.hid f1
  have F2 := Lib.hid f2
  have B1 := Lib.hid b1
  have WG2 : Hid (w.heap.size ≤ g2) := by show _ ≤ _; omega
  have NE12 : Hid (some g2 ≠ some w.heap.size) := fun e => by have := Option.some.inj e; omega
  have NE21 : Hid (some w.heap.size ≠ some g2) := fun e => by have := Option.some.inj e; omega
  have G2L : Hid (g2 < w1.heap.size) := (Array.getElem?_eq_some_iff.1 f2).1
  have G1L : Hid (w.heap.size < w1.heap.size) := (Array.getElem?_eq_some_iff.1 f1).1
  have c1 : w1.cell? ⟨w.heap.size, 1, none⟩ = some (.slice si ni ci) := by rw [cell_of_row _ _ _ _ _ _ f1]; rfl
  clear f1 f2 b1 hw1 e1 hg2
  go_wp2_with fail
  refine (clone_rowI ni (insL t.ins ks0) _ w1 (by
    obtain ⟨sp, cap, e, h⟩ := HV.out
    exact ⟨sp, cap, e, fun h0 => ⟨(h h0).1, by obtain ⟨b, o, e2, hr⟩ := (h h0).2; exact ⟨b, o, e2, range_below hr B1.out⟩⟩⟩) LIN.out (insL_ones _ _ ONES.out) (by omega)).mono ?_
  rintro e w2 ⟨iv, rfl, ho, hb2⟩
  have ONEI := Lib.hid (own_one ho)
  have O2 := Lib.hid ho
  have F12 := Lib.hid (row_below F1.out hb2)
  have F22 := Lib.hid (row_below F2.out hb2)
  have B2 := Lib.hid (B1.out.trans (hb2.mono B1.out.size))
  have HS2 : Hid (w1.heap.size ≤ w2.heap.size) := hb2.size
  clear ho hb2 c1 HV
  go_upto_region 2 with ((with_reducible show wpList _ _ _ _ _ _); refine wpList_store_part rfl 23 (.tmp 7) (.tmp 6) rfl w.heap.size 1 [nV vt] [.slice si ni ci] [.slice so no co, nV tt] [iv] 26 iv rfl rfl (cells_one ONEI.out) rfl rfl F12.out (by kernel_rfl) (one_mem ONEI.out) ?_; intro w3 q1 q2; have F13 := Lib.hid q1; have Q3 := Lib.hid q2; clear q1 q2; go_frame)
  have F13 : Hid (w3.heap[w.heap.size]? = some (.cells [nV vt, iv, .slice so no co, nV tt].toArray 26 (0, 0))) := F13.out
  have F23 := Lib.hid (row_far F22.out Q3.out NE21.out)
  have B3 := Lib.hid (B2.out.grown Q3.out B2.out.size (fun k hk => by cases hk; exact Nat.le_refl _))
  obtain ⟨base, hbase⟩ : ∃ base, base = w1.heap.size := ⟨_, rfl⟩
  have WB : Hid (w.heap.size < base) := by rw [hbase]; exact G1L.out
  have G2B : Hid (g2 < base) := by rw [hbase]; exact G2L.out
  rw [← hbase] at O2 HS2
  have O3 := Lib.hid (O2.out.kept Q3.out (own_far O2.out WB.out))
  obtain ⟨base2, hbase2⟩ : ∃ base2, base2 = w3.heap.size := ⟨_, rfl⟩
  have BB : Hid (base ≤ base2) := by rw [hbase2]; exact Nat.le_trans HS2.out Q3.out.size
  have B2S : Hid (base2 ≤ w3.heap.size) := by rw [hbase2]; exact Nat.le_refl _
  have IVB : Hid (∀ g, iv.ownBlock = some g → base ≤ g ∧ g < base2) := fun g hg => by rw [hbase2]; exact O3.out.lt g hg
  obtain ⟨sv, cv, hiv⟩ : ∃ sv cv, iv = .slice sv ni cv := by
    rcases O3.out.2 with ⟨e, h0⟩ | ⟨g, cap, cur, e, _⟩
    · exact ⟨none, 0, by rw [e, h0]⟩
    · exact ⟨_, _, e⟩
  subst hiv
  clear Q3 F12 F22 B2 O2 hbase hbase2 HS2 G2L G1L F1 F2
  have c1 : w3.cell? ⟨w.heap.size, 1, none⟩ = some (.slice sv ni cv) := by rw [cell_of_row _ _ _ _ _ _ F13.out]; rfl
  go_wp2_with fail
  clear c1
  go_loopw [11] (fun vi wr => ClInv base base2 ni w.heap.size g2 vt tt (.slice sv ni cv) so no co t ks0 w vi wr) (fun i _ => ni - (intOf i).toNat)
  case atStart => exact ⟨0, ks0, by omega, rfl, L0.out, O3.out, fun i x kv hi => by omega, fun i j kv kv' hi => by omega, fun i _ => rfl, F13.out, F23.out, B3.out, B2S.out⟩
  case round =>
    clear O3 F13 F23 B3 B2S
    obtain ⟨k, ks, hk, rfl, hlen, hown, hkey, hap, hold, hF1, hF2, hB, hB2⟩ := hrel
    have LEN := Lib.hid hlen
    have O := Lib.hid hown
    have KEYS := Lib.hid hkey
    have AP := Lib.hid hap
    have OLD := Lib.hid hold
    have F1 := Lib.hid hF1
    have F2 := Lib.hid hF2
    have B := Lib.hid hB
    have BS := Lib.hid hB2
    clear hlen hown hkey hap hold hF1 hF2 hB hB2
    by_cases hlt : k < ni
    · have hkx : k < t.ins.length := by have := NI.out; omega
      obtain ⟨x, hx⟩ : ∃ x, t.ins[k]? = some x := ⟨_, List.getElem?_eq_getElem hkx⟩
      obtain ⟨kv, hkv⟩ : ∃ kv, ks[k]? = some kv := ⟨_, List.getElem?_eq_getElem (by have := LEN.out; omega)⟩
      have hkv0 : ks0[k]? = some kv := by rw [← OLD.out k (Nat.le_refl _)]; exact hkv
      have hka := (KA.out k x kv hx hkv0).below B.out
      obtain ⟨sx, cx, hkv2⟩ := hka.2
      obtain ⟨gi, gc, cur, hgi⟩ : ∃ gi : Nat, sv = some ⟨gi, 0, none⟩ ∧ True ∧ True := by
        rcases O.out.2 with ⟨e, h0⟩ | ⟨g, cap, cur, e, _⟩
        · omega
        · simp only [Value.slice.injEq, true_and] at e
          exact ⟨g, e.1, trivial, trivial⟩
      subst gc
      have BG : Hid (base ≤ gi ∧ gi < base2) := IVB.out gi rfl
      have GX := Lib.hid hx
      have GK := Lib.hid hkv
      have KS := Lib.hid hka.1
      have BKL : Hid (x.key.length ≤ 70368744177664) := Nat.le_trans (TS.out.2.2.2 x (List.mem_of_getElem? hx)) (by omega)
      have CK : Hid (∀ w', Below wr.heap.size wr w' → w'.cell? ⟨gi, k * 35 + 33, none⟩ = some kv) := fun w' hw' => by
        rw [(own_kept O.out hw').cellAt (k * 35 + 33) (by omega), insL_get t.ins ks k x kv OK.out hx hkv 33 (by omega), inL, List.getElem?_append_right (by simp [ptL, (OK.out x (List.mem_of_getElem? hx)).1])]
        simp [ptL, (OK.out x (List.mem_of_getElem? hx)).1]
      have p0 : 0 ≤ (k : Int) := by omega
      have q0 : (k : Int) < (ni : Int) := by omega
      have LT : Hid (k < ni) := hlt
      clear hx hkv hkv0 hka hkx hkv2 sx cx
      go_wp2_with fail
      refine wp_region_held_drew (S := (fun w' => w'.heap[w.heap.size]? = some (.cells [nV vt, .slice (some ⟨gi, 0, none⟩) ni cv, .slice so no co, nV tt].toArray 26 (0, 0)))) (by kernel_rfl) F1.out (fun hHeld => ?_)
      have bb := Below.drew (Below.refl wr.heap.size wr)
      generalize hwd : wr.drew = wd
      rw [hwd] at hHeld bb
      have BD := Lib.hid bb
      clear hwd bb
      refine held_take (i := 0) (v := (.pointer (some ⟨w.heap.size, 1, none⟩))) rfl (by kernel_rfl) (by kernel_rfl) (by kernel_rfl) (fun _ _ _ h => h) (Or.inl ⟨by rfl, fun w' _ => by kernel_rfl⟩) hHeld ?_
      go_frame
      refine held_take (i := 1) (v := (.slice (some ⟨gi, 0, none⟩) ni cv)) rfl (by kernel_rfl) (by kernel_rfl) (by kernel_rfl) (fun _ _ _ h => h) (yieldsIf_load_one (by rfl) 23 _ rfl w.heap.size (1) rfl _ _ (fun w' hw' => by rw [cell_of_row _ _ _ _ _ _ hw']; rfl) Try.underlying23 rfl) hHeld ?_
      go_frame
      refine held_take (i := 2) (v := (.int .i64 (k : Int))) rfl (by kernel_rfl) (by kernel_rfl) (by kernel_rfl) (fun _ _ _ h => h) (Or.inl ⟨by rfl, fun w' _ => by kernel_rfl⟩) hHeld ?_
      go_frame
      refine held_take (i := 3) (v := (.pointer (some ⟨w.heap.size, 1, none⟩))) rfl (by kernel_rfl) (by kernel_rfl) (by kernel_rfl) (fun _ _ _ h => h) (Or.inl ⟨by rfl, fun w' _ => by kernel_rfl⟩) hHeld ?_
      go_frame
      refine held_take (i := 4) (v := (.slice (some ⟨gi, 0, none⟩) ni cv)) rfl (by kernel_rfl) (by kernel_rfl) (by kernel_rfl) (fun _ _ _ h => h) (yieldsIf_load_one (by rfl) 23 _ rfl w.heap.size (1) rfl _ _ (fun w' hw' => by rw [cell_of_row _ _ _ _ _ _ hw']; rfl) Try.underlying23 rfl) hHeld ?_
      go_frame
      refine held_take (i := 5) (v := (.int .i64 (k : Int))) rfl (by kernel_rfl) (by kernel_rfl) (by kernel_rfl) (fun _ _ _ h => h) (Or.inl ⟨by rfl, fun w' _ => by kernel_rfl⟩) hHeld ?_
      go_frame
      refine held_take (i := 6) (v := (.pointer (some ⟨gi, k * 35, none⟩))) rfl (by kernel_rfl) (by kernel_rfl) (by kernel_rfl) (fun _ _ _ h => h) (Or.inl ⟨by rfl, fun w' _ => by go_simp⟩) hHeld ?_
      go_frame
      refine held_take (i := 7) (v := (.pointer (some ⟨gi, k * 35 + 33, none⟩))) rfl (by kernel_rfl) (by kernel_rfl) (by kernel_rfl) (fun _ _ _ h => h) (Or.inl ⟨by rfl, fun w' _ => by kernel_rfl⟩) hHeld ?_
      go_frame
      refine wpAnyH_ready (rs := [8]) (by kernel_rfl) (by simp) (held_cons rfl (fun K hK => ?_) AllReadyH.nil)
      rw [if_pos (by rfl)]
      refine wp_load_cell 34 (.tmp 21) rfl gi (k * 35 + 33) rfl kv _ (CK.out wd BD.out) Try.underlying34 rfl ?_
      go_frame
      refine hK.out _ _ hHeld (fun hHeld => ?_)
      clear hK K
      refine wpAnyH_ready (rs := [9]) (by kernel_rfl) (by simp) (held_cons rfl (fun K hK => ?_) AllReadyH.nil)
      go_simp
      refine (clone_any x.key kv wd (KS.out.below BD.out) BKL.out).mono ?_
      rintro e w5 ⟨v5, rfl, ho5, hb5⟩
      have N5 := Lib.hid ho5
      have ONE5 := Lib.hid (own_one ho5)
      have W5 := Lib.hid (BD.out.trans (hb5.mono BD.out.size))
      have hS5 := row_below hHeld hb5
      clear hHeld ho5 hb5
      go_wp2_with fail
      refine hK.out _ _ hS5 (fun hHeld => ?_)
      clear hK K hS5
      refine held_take (i := 10) (v := (.pointer (some ⟨gi, k * 35, none⟩))) rfl (by kernel_rfl) (by kernel_rfl) (by kernel_rfl) (fun _ _ _ h => h) (Or.inl ⟨by rfl, fun w' _ => by go_simp⟩) hHeld ?_
      go_frame
      refine held_take (i := 11) (v := (.pointer (some ⟨gi, k * 35 + 33, none⟩))) rfl (by kernel_rfl) (by kernel_rfl) (by kernel_rfl) (fun _ _ _ h => h) (Or.inl ⟨by rfl, fun w' _ => by kernel_rfl⟩) hHeld ?_
      go_frame
      refine wpAnyH_ready (rs := [12]) (by kernel_rfl) (by simp) (held_cons rfl (fun K hK => ?_) AllReadyH.nil)
      rw [if_pos (by rfl)]
      refine wp_store_own 34 (.tmp 25) (.tmp 23) rfl gi (k * 35 + 33) base 35 ni cv 36 (insL t.ins ks) v5 rfl rfl ONE5.out (by kernel_rfl) (own_kept O.out W5.out) (by have := LT.out; omega) ?_
      intro w6 q1 q2
      have O6 := Lib.hid q1
      have Q6 := Lib.hid q2
      have hS6 := row_far hHeld q2 (fun e => by have := Option.some.inj e; have := BG.out; have := WB.out; omega)
      clear q1 q2 hHeld
      go_frame
      refine hK.out _ _ hS6 (fun hHeld => ?_)
      clear hK K hS6
      refine wpAnyH_done (by kernel_rfl) ?_ _
      have F16 := Lib.hid hHeld
      clear hHeld
      go_wp2_with fail
      have F26 := Lib.hid (row_far (row_below F2.out W5.out) Q6.out (fun e => by have := Option.some.inj e; have := BG.out; have := G2B.out; omega))
      have B6 := Lib.hid ((B.out.trans (W5.out.mono B.out.size)).grown Q6.out (Nat.le_trans B.out.size W5.out.size) (fun q hq => by cases hq; have := BG.out; have := WB.out; omega))
      have SZ5 : Hid (wr.heap.size ≤ wd.heap.size) := BD.out.size
      go_roundw
      case rel =>
        have lk : k < ks.length := by have := LEN.out; have := NI.out; have := LT.out; omega
        have nn := N5.out
        refine ⟨k + 1, ks.set k v5, by omega, by go_num, by rw [List.length_set]; exact LEN.out, ?_, ?_, ?_, ?_, F16.out, F26.out, B6.out, Nat.le_trans BS.out (Nat.le_trans W5.out.size Q6.out.size)⟩
        · rw [insL_set t.ins ks k v5 LEN.out OK.out (by have := NI.out; have := LT.out; omega)]
          exact O6.out
        · intro i y kw hi hy hkw
          by_cases hik : i = k
          · subst hik
            rw [List.getElem?_set_self lk] at hkw
            cases hkw
            have := Option.some.inj (GX.out.symm.trans hy)
            subst this
            exact own_base (nn.kept Q6.out (own_far nn (by have := BG.out; have := BS.out; have := SZ5.out; omega))) (by have := BS.out; have := SZ5.out; omega)
          · rw [List.getElem?_set_ne (by omega)] at hkw
            have := own_kept (KEYS.out i y kw (by omega) hy hkw) W5.out
            exact this.kept Q6.out (own_far this BG.out.2)
        · intro i j kw kw' hi hj hij hkw hkw' g hg
          by_cases hik : i = k
          · subst hik
            rw [List.getElem?_set_self lk] at hkw
            cases hkw
            rw [List.getElem?_set_ne (by omega)] at hkw'
            obtain ⟨y, hy⟩ : ∃ y, t.ins[j]? = some y := ⟨_, List.getElem?_eq_getElem (by have := (List.getElem?_eq_some_iff.1 hkw').1; have := LEN.out; omega)⟩
            have ho := KEYS.out j y kw' (by omega) hy hkw'
            have h2 := (nn.lt g hg).1
            intro sp m cap hv _ e
            have h3 := (ho.lt sp.block (by rw [hv]; rfl)).2
            have := Option.some.inj e
            have := SZ5.out
            omega
          · rw [List.getElem?_set_ne (by omega)] at hkw
            obtain ⟨y, hy⟩ : ∃ y, t.ins[i]? = some y := ⟨_, List.getElem?_eq_getElem (by have := (List.getElem?_eq_some_iff.1 hkw).1; have := LEN.out; omega)⟩
            have ho := KEYS.out i y kw (by omega) hy hkw
            have h2 := (ho.lt g hg).2
            by_cases hjk : j = k
            · subst hjk
              rw [List.getElem?_set_self lk] at hkw'
              cases hkw'
              exact own_off nn (by have := SZ5.out; omega)
            · rw [List.getElem?_set_ne (by omega)] at hkw'
              exact AP.out i j kw kw' (by omega) (by omega) hij hkw hkw' g hg
        · intro i hi
          rw [List.getElem?_set_ne (by omega)]
          exact OLD.out i (by omega)
      case measure => simp [intOf]; omega
    · have hkn : k = ni := by omega
      have hge : ¬ (k : Int) < (ni : Int) := by omega
      have CI : Hid (CloneIns base base2 wr (.slice sv ni cv) t.ins ks) := ⟨LEN.out, OK.out, by rw [← NI.out]; exact O.out, BB.out, fun g hg => (IVB.out g hg).2, fun i x kv hx hkv => KEYS.out i x kv (by have := (List.getElem?_eq_some_iff.1 hx).1; have := NI.out; omega) hx hkv,
        fun i j kv kv' hij h1 h2 => AP.out i j kv kv' (by have := (List.getElem?_eq_some_iff.1 h1).1; have := NI.out; have := LEN.out; omega) (by have := (List.getElem?_eq_some_iff.1 h2).1; have := NI.out; have := LEN.out; omega) hij h1 h2⟩
      have c2 : wr.cell? ⟨w.heap.size, 2, none⟩ = some (.slice so no co) := by rw [cell_of_row _ _ _ _ _ _ F1.out]; rfl
      clear hkn O KEYS AP OLD
      go_wp2_with fail
      refine (clone_rowO no (outsL t.outs) _ wr (HVO.out wr B.out) LOUT.out (outsL_ones _) (by omega)).mono ?_
      rintro e w5 ⟨ov, rfl, ho, hb5⟩
      have ONEO := Lib.hid (own_one ho)
      have OO : Hid (OutsOwn wr.heap.size w5 ov t.outs) := ⟨by rw [← NO.out]; exact ho, TS.out.1.2.2.1⟩
      have F15 := Lib.hid (row_below F1.out hb5)
      have F25 := Lib.hid (row_below F2.out hb5)
      have B5 := Lib.hid (B.out.trans (hb5.mono B.out.size))
      have CI5 := Lib.hid (CI.out.keep hb5)
      have IL := Lib.hid CI.out.own.low
      have SZ : Hid (base ≤ wr.heap.size) := Nat.le_trans BB.out BS.out
      clear ho hb5 c2 CI F1 F2
      go_upto_region 8 with ((with_reducible show wpList _ _ _ _ _ _); refine wpList_store_part rfl 24 (.tmp 30) (.tmp 29) rfl w.heap.size 2 [nV vt, .slice sv ni cv] [.slice so no co] [nV tt] [ov] 26 ov rfl rfl (cells_one ONEO.out) rfl rfl F15.out (by kernel_rfl) (one_mem ONEO.out) ?_; intro w6 q1 q2; have F16 := Lib.hid q1; have Q6 := Lib.hid q2; clear q1 q2; go_frame)
      have F16 : Hid (w6.heap[w.heap.size]? = some (.cells [nV vt, .slice sv ni cv, ov, nV tt].toArray 26 (0, 0))) := F16.out
      have F26 := Lib.hid (row_far F25.out Q6.out NE21.out)
      have B6 := Lib.hid (B5.out.grown Q6.out B5.out.size (fun q hq => by cases hq; exact Nat.le_refl _))
      have CI6 := Lib.hid (CI5.out.other Q6.out WB.out)
      have OO6 := Lib.hid (OO.out.other Q6.out (Nat.lt_of_lt_of_le WB.out SZ.out))
      have ONE : Hid ([nV vt, .slice sv ni cv, ov, nV tt].toArray.all (·.oneCell') = true) := by
        show _ = _
        have b : ov.oneCell' = true := ONEO.out
        rw [Array.all_eq_true_iff_forall_mem]
        intro u hu
        simp only [List.mem_toArray, List.mem_cons, List.not_mem_nil, or_false] at hu
        rcases hu with rfl | rfl | rfl | rfl
        · rfl
        · rfl
        · exact b
        · rfl
      clear Q6 F15 F25 B5 CI5 OO
      go_wp2_with ((with_reducible show wpList _ _ _ _ _ _); first | (refine wpList_load_row rfl 26 (.tmp 1) rfl w.heap.size rfl 26 [nV vt, .slice sv ni cv, ov, nV tt].toArray (0, 0) _ F16.out Try.underlying26 rfl (by kernel_rfl) ?_; go_frame) | (refine wpList_store_row rfl 26 (.tmp 2) (.tmp 31) rfl g2 [nV vt, .slice sv ni cv, ov, nV tt].toArray rfl rfl 26 _ F26.out (by kernel_rfl) rfl ONE.out ?_; go_frame))
      refine bodyPost_ret (results_cell_row rfl _ _ g2 26 [nV vt, .slice sv ni cv, ov, nV tt].toArray (0, 0) _ rfl (setRow_heap _ _ _ _ _ _ F26.out) Try.underlying26 rfl (by kernel_rfl)) rfl ?_
      have HQ : w6.grownBy (w6.setRow g2 [nV vt, .slice sv ni cv, ov, nV tt].toArray) (some g2) := setRow_grown _
      have e1 := VT.out
      have e2 := TT.out
      refine ⟨.slice sv ni cv, ov, ks, base, base2, wr.heap.size, by rw [e1, e2]; rfl, B6.out.grown HQ B6.out.size (fun q hq => by cases hq; exact WG2.out), Nat.le_of_lt WB.out, CI6.out.other HQ G2B.out, OO6.out.other HQ (Nat.lt_of_lt_of_le G2B.out SZ.out), SZ.out, IL.out⟩
theorem CloneAt.tx {base base2 base3 : Nat} {w : World} {iv ov : Value} {t : TTx} {ks : List Value} (h : CloneAt base base2 base3 w iv ov t ks) (ht : TxOk t) : TxAt w (.agg (txL t iv ov).toArray) t := ⟨ht, iv, ov, rfl, h.1.own.at, h.2.1.at⟩
theorem clone_all : CloneC := fun t v w h1 hs => (clone_tx t v w h1 hs).mono fun _ _ ⟨_, _, _, _, _, _, he, hb, _, hc⟩ => ⟨_, he, hc.tx hs.1.1, hb⟩
end Go.Proofs.Ytkabpbclmhmgfaa.Sha
