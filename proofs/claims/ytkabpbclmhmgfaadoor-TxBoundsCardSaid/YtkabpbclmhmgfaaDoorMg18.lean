/-
  Texts of this proof joined into one file: TxCloneW, TxBuilds, TxLits, TxBasesWalk. What each holds, and under which conditions, its own first sentence tells.
-/
import Derived.Test.YtkabpbclmhmgfaaDoorMg17
import Derived.Test.YtkabpbclmhmgfaaDoorMg08
import Derived.Test.YtkabpbclmhmgfaaDoorMg10
import Derived.Test.YtkabpbclmhmgfaaDoorMg13
import Derived.Test.YtkabpbclmhmgfaaDoorMg09
/-
  Package tx copies a transaction: all of the copy is new, and each key lies by itself. Nothing that was there turns. Condition: a transaction of a few inputs and outputs that lies in memory.
-/
namespace Go.Proofs.YtkabpbclmhmgfaaDoor.Sha
open Go Go.RowKit

/-- A copy's inputs: rows and keys of its own, each by itself. -/
def CloneIns (base base2 : Nat) (w : World) (iv : Value) (l : List TIn) (ks : List Value) : Prop :=
  l.length = ks.length ∧ InsOk l ∧ w.ownsRow base 54 35 iv l.length (insL l ks) ∧ base ≤ base2 ∧ (∀ g, iv.ownBlock = some g → g < base2)
    ∧ (∀ (i : Nat) x kv, l[i]? = some x → ks[i]? = some kv → w.ownsRow base2 5 1 kv x.key.length (x.key.map bV))
    ∧ (∀ (i j : Nat) kv kv', i ≠ j → ks[i]? = some kv → ks[j]? = some kv' → ∀ g, kv.ownBlock = some g → Off kv' (some g))
theorem CloneIns.own {base base2 : Nat} {w : World} {iv : Value} {l : List TIn} {ks : List Value} (h : CloneIns base base2 w iv l ks) : InsOwn base w iv l ks := by
  obtain ⟨h1, h2, h3, h4, h5, h6, _⟩ := h
  refine ⟨h1, h3, h2, fun i x kv hx hk => ?_⟩
  have ho := h6 i x kv hx hk
  have hs := src_own ho
  obtain ⟨sp, cap, e⟩ := hs.shape
  refine ⟨⟨hs, sp, cap, e⟩, fun q hq => own_off ho (Nat.lt_of_lt_of_le hq h4), ?_⟩
  cases hb : iv.ownBlock with
  | none => exact Off.none kv
  | some g => exact own_off ho (h5 g hb)
theorem CloneIns.keep {base base2 : Nat} {w w' : World} {iv : Value} {l : List TIn} {ks : List Value} (h : CloneIns base base2 w iv l ks) (hb : Below w.heap.size w w') : CloneIns base base2 w' iv l ks :=
  ⟨h.1, h.2.1, own_kept h.2.2.1 hb, h.2.2.2.1, h.2.2.2.2.1, fun i x kv hx hk => own_kept (h.2.2.2.2.2.1 i x kv hx hk) hb, h.2.2.2.2.2.2⟩
theorem CloneIns.other {base base2 q : Nat} {w w' : World} {iv : Value} {l : List TIn} {ks : List Value} (h : CloneIns base base2 w iv l ks) (hg : w.grownBy w' (some q)) (hq : q < base) : CloneIns base base2 w' iv l ks :=
  ⟨h.1, h.2.1, h.2.2.1.kept hg (own_far h.2.2.1 hq), h.2.2.2.1, h.2.2.2.2.1, fun i x kv hx hk => (h.2.2.2.2.2.1 i x kv hx hk).kept hg (own_far (h.2.2.2.2.2.1 i x kv hx hk) (Nat.lt_of_lt_of_le hq h.2.2.2.1)), h.2.2.2.2.2.2⟩
/-- A copy's two rows. -/
def CloneAt (base base2 base3 : Nat) (w : World) (iv ov : Value) (t : TTx) (ks : List Value) : Prop := CloneIns base base2 w iv t.ins ks ∧ OutsOwn base3 w ov t.outs ∧ base ≤ base3 ∧ InsLow base3 iv ks
def ClnPost (t : TTx) (w : World) (e : Ending) (w' : World) : Prop :=
  ∃ iv ov ks base base2 base3, e = .returned (.agg (txL t iv ov).toArray) ∧ Below w.heap.size w w' ∧ w.heap.size ≤ base ∧ CloneAt base base2 base3 w' iv ov t ks
def ClInv (base base2 ni : Nat) (g1 g2 vt tt : Nat) (iv : Value) (so : Option Addr) (no co : Nat) (t : TTx) (ks0 : List Value) (w : World) (vi : Value) (wr : World) : Prop :=
  ∃ (k : Nat) (ks : List Value), k ≤ ni ∧ vi = .int .i64 k ∧ t.ins.length = ks.length ∧ wr.ownsRow base 54 35 iv ni (insL t.ins ks)
    ∧ (∀ (i : Nat) x kv, i < k → t.ins[i]? = some x → ks[i]? = some kv → wr.ownsRow base2 5 1 kv x.key.length (x.key.map bV))
    ∧ (∀ (i j : Nat) kv kv', i < k → j < k → i ≠ j → ks[i]? = some kv → ks[j]? = some kv' → ∀ g, kv.ownBlock = some g → Off kv' (some g))
    ∧ (∀ i, k ≤ i → ks[i]? = ks0[i]?) ∧ wr.heap[g1]? = some (.cells [nV vt, iv, .slice so no co, nV tt].toArray 26 (0, 0)) ∧ wr.heap[g2]? = some (.cells [nV 0, .slice none 0 0, .slice none 0 0, nV 0].toArray 26 (0, 0)) ∧ Below w.heap.size w wr ∧ base2 ≤ wr.heap.size
set_option maxHeartbeats 4000000 in
set_option maxRecDepth 100000 in
theorem clone_tx (t : TTx) (v : Value) (w : World) (h1 : TxAt w v t) (hs : TxSmall t) : Calls Tryd.prog 25 #[v] w (ClnPost t w) := by
  obtain ⟨ht0, iv0, ov0, rfl, hti, hto⟩ := h1
  obtain ⟨ks0, hl0, hok, hk0, si, ci, rfl, hr0⟩ := insAt_keys hti
  obtain ⟨so, co, rfl, hco, hor⟩ := hto
  obtain ⟨ni, hn1⟩ : ∃ ni, ni = t.ins.length := ⟨_, rfl⟩
  obtain ⟨no, hn2⟩ : ∃ no, no = t.outs.length := ⟨_, rfl⟩
  obtain ⟨vt, hvt⟩ : ∃ vt, vt = t.ver := ⟨_, rfl⟩
  obtain ⟨tt, htt⟩ : ∃ tt, tt = t.time := ⟨_, rfl⟩
  have VT := Lib.hid hvt
  have TT := Lib.hid htt
  have NI := Lib.hid hn1
  have NO := Lib.hid hn2
  have TS := Lib.hid hs
  have bni : ni ≤ 1000 := by rw [hn1]; exact hs.2.1
  have bno : no ≤ 1000 := by rw [hn2]; exact hs.2.2.1
  have HV : Hid (∃ sp cap, (Value.slice si ni ci) = .slice sp ni cap ∧ (0 < ni → ni ≤ cap ∧ ∃ b o, sp = some ⟨b, o, none⟩ ∧ w.rangeAt b o (insL t.ins ks0))) := ⟨si, ci, rfl, by rw [hn1]; exact hr0⟩
  have HVO : Hid (∀ w', Below w.heap.size w w' → ∃ sp cap, (Value.slice so no co) = .slice sp no cap ∧ (0 < no → no ≤ cap ∧ ∃ b o, sp = some ⟨b, o, none⟩ ∧ w'.rangeAt b o (outsL t.outs))) := fun w' hw' => ⟨so, co, rfl, fun h0 => by
    obtain ⟨b, o, e, hr⟩ := hor (by rw [← hn2]; exact h0)
    exact ⟨by rw [hn2]; exact hco, b, o, e, outsL_read t.outs o hs.1.2.2.1 (fun i y hy => range_below (hr i y hy).2 hw')⟩⟩
  have L0 := Lib.hid hl0
  have OK := Lib.hid hok
  have KA := Lib.hid hk0
  have ONES := Lib.hid (keys_ones hl0 hk0)
  have LIN : Hid ((insL t.ins ks0).length = ni * 35) := by show _ = _; rw [insL_length t.ins ks0 hl0 hok, hn1]
  have LOUT : Hid ((outsL t.outs).length = no * 33) := by show _ = _; rw [outsL_length t.outs hs.1.2.2.1, hn2]
  simp only [txL, ← hn1, ← hn2, ← hvt, ← htt]
  clear hn1 hn2 hvt htt ht0 hti hl0 hok hk0 hr0 hor hco hs
  go_enter Tryd.func25, Tryd.ntmps25
  go_upto_region 1 with fail
  have f1 := row_below (heap_alloc_new w (.cells [nV vt, .slice si ni ci, .slice so no co, nV tt].toArray 26 (0, 0))) ((Below.refl _ _).alloc (Nat.le_refl _) (.cells [nV 0, .slice none 0 0, .slice none 0 0, nV 0].toArray 26 (0, 0)))
  have f2 := heap_alloc_new (w.alloc (.cells [nV vt, .slice si ni ci, .slice so no co, nV tt].toArray 26 (0, 0))) (.cells [nV 0, .slice none 0 0, .slice none 0 0, nV 0].toArray 26 (0, 0))
  have b1 := ((Below.refl w.heap.size w).alloc (Nat.le_refl _) (.cells [nV vt, .slice si ni ci, .slice so no co, nV tt].toArray 26 (0, 0))).alloc (by simp) (.cells [nV 0, .slice none 0 0, .slice none 0 0, nV 0].toArray 26 (0, 0))
  rw [World.size_alloc] at f2
  generalize hw1 : World.alloc _ _ = w1
  have e1 : (w.alloc (.cells [nV vt, .slice si ni ci, .slice so no co, nV tt].toArray 26 (0, 0))).alloc (.cells [nV 0, .slice none 0 0, .slice none 0 0, nV 0].toArray 26 (0, 0)) = w1 := hw1
  rw [e1] at f1 f2 b1
  obtain ⟨g2, hg2⟩ : ∃ g2, g2 = w.heap.size + 1 := ⟨_, rfl⟩
  rw [← hg2] at f2 ⊢
  have F1 := Lib.hid f1
  have F2 := Lib.hid f2
  have B1 := Lib.hid b1
  have WG2 : Hid (w.heap.size ≤ g2) := by show _ ≤ _; omega
  have NE12 : Hid (some g2 ≠ some w.heap.size) := fun e => by have := Option.some.inj e; omega
  have NE21 : Hid (some w.heap.size ≠ some g2) := fun e => by have := Option.some.inj e; omega
  have G2L : Hid (g2 < w1.heap.size) := (Array.getElem?_eq_some_iff.1 f2).1
  have G1L : Hid (w.heap.size < w1.heap.size) := (Array.getElem?_eq_some_iff.1 f1).1
  have c1 : w1.cell? ⟨w.heap.size, 1, none⟩ = some (.slice si ni ci) := by rw [cell_of_row _ _ _ _ _ _ f1]; rfl
  clear f1 f2 b1 hw1 e1 hg2
  go_wp2_with fail
  refine (clone_rowI ni (insL t.ins ks0) _ w1 (by
    obtain ⟨sp, cap, e, h⟩ := HV.out
    exact ⟨sp, cap, e, fun h0 => ⟨(h h0).1, by obtain ⟨b, o, e2, hr⟩ := (h h0).2; exact ⟨b, o, e2, range_below hr B1.out⟩⟩⟩) LIN.out (insL_ones _ _ ONES.out) (by omega)).mono ?_
  rintro e w2 ⟨iv, rfl, ho, hb2⟩
  have ONEI := Lib.hid (own_one ho)
  have O2 := Lib.hid ho
  have F12 := Lib.hid (row_below F1.out hb2)
  have F22 := Lib.hid (row_below F2.out hb2)
  have B2 := Lib.hid (B1.out.trans (hb2.mono B1.out.size))
  have HS2 : Hid (w1.heap.size ≤ w2.heap.size) := hb2.size
  clear ho hb2 c1 HV
  go_upto_region 2 with ((with_reducible show wpList _ _ _ _ _ _); refine wpList_store_part rfl 23 (.tmp 7) (.tmp 6) rfl w.heap.size 1 [nV vt] [.slice si ni ci] [.slice so no co, nV tt] [iv] 26 iv rfl rfl (cells_one ONEI.out) rfl rfl F12.out (by kernel_rfl) (one_mem ONEI.out) ?_; intro w3 q1 q2; have F13 := Lib.hid q1; have Q3 := Lib.hid q2; clear q1 q2; go_frame)
  have F13 : Hid (w3.heap[w.heap.size]? = some (.cells [nV vt, iv, .slice so no co, nV tt].toArray 26 (0, 0))) := F13.out
  have F23 := Lib.hid (row_far F22.out Q3.out NE21.out)
  have B3 := Lib.hid (B2.out.grown Q3.out B2.out.size (fun k hk => by cases hk; exact Nat.le_refl _))
  obtain ⟨base, hbase⟩ : ∃ base, base = w1.heap.size := ⟨_, rfl⟩
  have WB : Hid (w.heap.size < base) := by rw [hbase]; exact G1L.out
  have G2B : Hid (g2 < base) := by rw [hbase]; exact G2L.out
  rw [← hbase] at O2 HS2
  have O3 := Lib.hid (O2.out.kept Q3.out (own_far O2.out WB.out))
  obtain ⟨base2, hbase2⟩ : ∃ base2, base2 = w3.heap.size := ⟨_, rfl⟩
  have BB : Hid (base ≤ base2) := by rw [hbase2]; exact Nat.le_trans HS2.out Q3.out.size
  have B2S : Hid (base2 ≤ w3.heap.size) := by rw [hbase2]; exact Nat.le_refl _
  have IVB : Hid (∀ g, iv.ownBlock = some g → base ≤ g ∧ g < base2) := fun g hg => by rw [hbase2]; exact O3.out.lt g hg
  obtain ⟨sv, cv, hiv⟩ : ∃ sv cv, iv = .slice sv ni cv := by
    rcases O3.out.2 with ⟨e, h0⟩ | ⟨g, cap, cur, e, _⟩
    · exact ⟨none, 0, by rw [e, h0]⟩
    · exact ⟨_, _, e⟩
  subst hiv
  clear Q3 F12 F22 B2 O2 hbase hbase2 HS2 G2L G1L F1 F2
  have c1 : w3.cell? ⟨w.heap.size, 1, none⟩ = some (.slice sv ni cv) := by rw [cell_of_row _ _ _ _ _ _ F13.out]; rfl
  go_wp2_with fail
  clear c1
  go_loopw [11] (fun vi wr => ClInv base base2 ni w.heap.size g2 vt tt (.slice sv ni cv) so no co t ks0 w vi wr) (fun i _ => ni - (intOf i).toNat)
  case atStart => exact ⟨0, ks0, by omega, rfl, L0.out, O3.out, fun i x kv hi => by omega, fun i j kv kv' hi => by omega, fun i _ => rfl, F13.out, F23.out, B3.out, B2S.out⟩
  case round =>
    clear O3 F13 F23 B3 B2S
    obtain ⟨k, ks, hk, rfl, hlen, hown, hkey, hap, hold, hF1, hF2, hB, hB2⟩ := hrel
    have LEN := Lib.hid hlen
    have O := Lib.hid hown
    have KEYS := Lib.hid hkey
    have AP := Lib.hid hap
    have OLD := Lib.hid hold
    have F1 := Lib.hid hF1
    have F2 := Lib.hid hF2
    have B := Lib.hid hB
    have BS := Lib.hid hB2
    clear hlen hown hkey hap hold hF1 hF2 hB hB2
    by_cases hlt : k < ni
    · have hkx : k < t.ins.length := by have := NI.out; omega
      obtain ⟨x, hx⟩ : ∃ x, t.ins[k]? = some x := ⟨_, List.getElem?_eq_getElem hkx⟩
      obtain ⟨kv, hkv⟩ : ∃ kv, ks[k]? = some kv := ⟨_, List.getElem?_eq_getElem (by have := LEN.out; omega)⟩
      have hkv0 : ks0[k]? = some kv := by rw [← OLD.out k (Nat.le_refl _)]; exact hkv
      have hka := (KA.out k x kv hx hkv0).below B.out
      obtain ⟨sx, cx, hkv2⟩ := hka.2
      obtain ⟨gi, gc, cur, hgi⟩ : ∃ gi : Nat, sv = some ⟨gi, 0, none⟩ ∧ True ∧ True := by
        rcases O.out.2 with ⟨e, h0⟩ | ⟨g, cap, cur, e, _⟩
        · omega
        · simp only [Value.slice.injEq, true_and] at e
          exact ⟨g, e.1, trivial, trivial⟩
      subst gc
      have BG : Hid (base ≤ gi ∧ gi < base2) := IVB.out gi rfl
      have GX := Lib.hid hx
      have GK := Lib.hid hkv
      have KS := Lib.hid hka.1
      have BKL : Hid (x.key.length ≤ 70368744177664) := Nat.le_trans (TS.out.2.2.2 x (List.mem_of_getElem? hx)) (by omega)
      have CK : Hid (∀ w', Below wr.heap.size wr w' → w'.cell? ⟨gi, k * 35 + 33, none⟩ = some kv) := fun w' hw' => by
        rw [(own_kept O.out hw').cellAt (k * 35 + 33) (by omega), insL_get t.ins ks k x kv OK.out hx hkv 33 (by omega), inL, List.getElem?_append_right (by simp [ptL, (OK.out x (List.mem_of_getElem? hx)).1])]
        simp [ptL, (OK.out x (List.mem_of_getElem? hx)).1]
      have p0 : 0 ≤ (k : Int) := by omega
      have q0 : (k : Int) < (ni : Int) := by omega
      have LT : Hid (k < ni) := hlt
      clear hx hkv hkv0 hka hkx hkv2 sx cx
      go_wp2_with fail
      refine wp_region_held_drew (S := (fun w' => w'.heap[w.heap.size]? = some (.cells [nV vt, .slice (some ⟨gi, 0, none⟩) ni cv, .slice so no co, nV tt].toArray 26 (0, 0)))) (by kernel_rfl) F1.out (fun hHeld => ?_)
      have bb := Below.drew (Below.refl wr.heap.size wr)
      generalize hwd : wr.drew = wd
      rw [hwd] at hHeld bb
      have BD := Lib.hid bb
      clear hwd bb
      refine held_take (i := 0) (v := (.pointer (some ⟨w.heap.size, 1, none⟩))) rfl (by kernel_rfl) (by kernel_rfl) (by kernel_rfl) (fun _ _ _ h => h) (Or.inl ⟨by rfl, fun w' _ => by kernel_rfl⟩) hHeld ?_
      go_frame
      refine held_take (i := 1) (v := (.slice (some ⟨gi, 0, none⟩) ni cv)) rfl (by kernel_rfl) (by kernel_rfl) (by kernel_rfl) (fun _ _ _ h => h) (yieldsIf_load_one (by rfl) 23 _ rfl w.heap.size (1) rfl _ _ (fun w' hw' => by rw [cell_of_row _ _ _ _ _ _ hw']; rfl) Tryd.underlying23 rfl) hHeld ?_
      go_frame
      refine held_take (i := 2) (v := (.int .i64 (k : Int))) rfl (by kernel_rfl) (by kernel_rfl) (by kernel_rfl) (fun _ _ _ h => h) (Or.inl ⟨by rfl, fun w' _ => by kernel_rfl⟩) hHeld ?_
      go_frame
      refine held_take (i := 3) (v := (.pointer (some ⟨w.heap.size, 1, none⟩))) rfl (by kernel_rfl) (by kernel_rfl) (by kernel_rfl) (fun _ _ _ h => h) (Or.inl ⟨by rfl, fun w' _ => by kernel_rfl⟩) hHeld ?_
      go_frame
      refine held_take (i := 4) (v := (.slice (some ⟨gi, 0, none⟩) ni cv)) rfl (by kernel_rfl) (by kernel_rfl) (by kernel_rfl) (fun _ _ _ h => h) (yieldsIf_load_one (by rfl) 23 _ rfl w.heap.size (1) rfl _ _ (fun w' hw' => by rw [cell_of_row _ _ _ _ _ _ hw']; rfl) Tryd.underlying23 rfl) hHeld ?_
      go_frame
      refine held_take (i := 5) (v := (.int .i64 (k : Int))) rfl (by kernel_rfl) (by kernel_rfl) (by kernel_rfl) (fun _ _ _ h => h) (Or.inl ⟨by rfl, fun w' _ => by kernel_rfl⟩) hHeld ?_
      go_frame
      refine held_take (i := 6) (v := (.pointer (some ⟨gi, k * 35, none⟩))) rfl (by kernel_rfl) (by kernel_rfl) (by kernel_rfl) (fun _ _ _ h => h) (Or.inl ⟨by rfl, fun w' _ => by go_simp⟩) hHeld ?_
      go_frame
      refine held_take (i := 7) (v := (.pointer (some ⟨gi, k * 35 + 33, none⟩))) rfl (by kernel_rfl) (by kernel_rfl) (by kernel_rfl) (fun _ _ _ h => h) (Or.inl ⟨by rfl, fun w' _ => by kernel_rfl⟩) hHeld ?_
      go_frame
      refine wpAnyH_ready (rs := [8]) (by kernel_rfl) (by simp) (held_cons rfl (fun K hK => ?_) AllReadyH.nil)
      rw [if_pos (by rfl)]
      refine wp_load_cell 29 (.tmp 21) rfl gi (k * 35 + 33) rfl kv _ (CK.out wd BD.out) Tryd.underlying29 rfl ?_
      go_frame
      refine hK.out _ _ hHeld (fun hHeld => ?_)
      clear hK K
      refine wpAnyH_ready (rs := [9]) (by kernel_rfl) (by simp) (held_cons rfl (fun K hK => ?_) AllReadyH.nil)
      go_simp
      refine (clone_any x.key kv wd (KS.out.below BD.out) BKL.out).mono ?_
      rintro e w5 ⟨v5, rfl, ho5, hb5⟩
      have N5 := Lib.hid ho5
      have ONE5 := Lib.hid (own_one ho5)
      have W5 := Lib.hid (BD.out.trans (hb5.mono BD.out.size))
      have hS5 := row_below hHeld hb5
      clear hHeld ho5 hb5
      go_wp2_with fail
      refine hK.out _ _ hS5 (fun hHeld => ?_)
      clear hK K hS5
      refine held_take (i := 10) (v := (.pointer (some ⟨gi, k * 35, none⟩))) rfl (by kernel_rfl) (by kernel_rfl) (by kernel_rfl) (fun _ _ _ h => h) (Or.inl ⟨by rfl, fun w' _ => by go_simp⟩) hHeld ?_
      go_frame
      refine held_take (i := 11) (v := (.pointer (some ⟨gi, k * 35 + 33, none⟩))) rfl (by kernel_rfl) (by kernel_rfl) (by kernel_rfl) (fun _ _ _ h => h) (Or.inl ⟨by rfl, fun w' _ => by kernel_rfl⟩) hHeld ?_
      go_frame
      refine wpAnyH_ready (rs := [12]) (by kernel_rfl) (by simp) (held_cons rfl (fun K hK => ?_) AllReadyH.nil)
      rw [if_pos (by rfl)]
      refine wp_store_own 29 (.tmp 25) (.tmp 23) rfl gi (k * 35 + 33) base 35 ni cv 54 (insL t.ins ks) v5 rfl rfl ONE5.out (by kernel_rfl) (own_kept O.out W5.out) (by have := LT.out; omega) ?_
      intro w6 q1 q2
      have O6 := Lib.hid q1
      have Q6 := Lib.hid q2
      have hS6 := row_far hHeld q2 (fun e => by have := Option.some.inj e; have := BG.out; have := WB.out; omega)
      clear q1 q2 hHeld
      go_frame
      refine hK.out _ _ hS6 (fun hHeld => ?_)
      clear hK K hS6
      refine wpAnyH_done (by kernel_rfl) ?_ _
      have F16 := Lib.hid hHeld
      clear hHeld
      go_wp2_with fail
      have F26 := Lib.hid (row_far (row_below F2.out W5.out) Q6.out (fun e => by have := Option.some.inj e; have := BG.out; have := G2B.out; omega))
      have B6 := Lib.hid ((B.out.trans (W5.out.mono B.out.size)).grown Q6.out (Nat.le_trans B.out.size W5.out.size) (fun q hq => by cases hq; have := BG.out; have := WB.out; omega))
      have SZ5 : Hid (wr.heap.size ≤ wd.heap.size) := BD.out.size
      go_roundw
      case rel =>
        have lk : k < ks.length := by have := LEN.out; have := NI.out; have := LT.out; omega
        have nn := N5.out
        refine ⟨k + 1, ks.set k v5, by omega, by go_num, by rw [List.length_set]; exact LEN.out, ?_, ?_, ?_, ?_, F16.out, F26.out, B6.out, Nat.le_trans BS.out (Nat.le_trans W5.out.size Q6.out.size)⟩
        · rw [insL_set t.ins ks k v5 LEN.out OK.out (by have := NI.out; have := LT.out; omega)]
          exact O6.out
        · intro i y kw hi hy hkw
          by_cases hik : i = k
          · subst hik
            rw [List.getElem?_set_self lk] at hkw
            cases hkw
            have := Option.some.inj (GX.out.symm.trans hy)
            subst this
            exact own_base (nn.kept Q6.out (own_far nn (by have := BG.out; have := BS.out; have := SZ5.out; omega))) (by have := BS.out; have := SZ5.out; omega)
          · rw [List.getElem?_set_ne (by omega)] at hkw
            have := own_kept (KEYS.out i y kw (by omega) hy hkw) W5.out
            exact this.kept Q6.out (own_far this BG.out.2)
        · intro i j kw kw' hi hj hij hkw hkw' g hg
          by_cases hik : i = k
          · subst hik
            rw [List.getElem?_set_self lk] at hkw
            cases hkw
            rw [List.getElem?_set_ne (by omega)] at hkw'
            obtain ⟨y, hy⟩ : ∃ y, t.ins[j]? = some y := ⟨_, List.getElem?_eq_getElem (by have := (List.getElem?_eq_some_iff.1 hkw').1; have := LEN.out; omega)⟩
            have ho := KEYS.out j y kw' (by omega) hy hkw'
            have h2 := (nn.lt g hg).1
            intro sp m cap hv _ e
            have h3 := (ho.lt sp.block (by rw [hv]; rfl)).2
            have := Option.some.inj e
            have := SZ5.out
            omega
          · rw [List.getElem?_set_ne (by omega)] at hkw
            obtain ⟨y, hy⟩ : ∃ y, t.ins[i]? = some y := ⟨_, List.getElem?_eq_getElem (by have := (List.getElem?_eq_some_iff.1 hkw).1; have := LEN.out; omega)⟩
            have ho := KEYS.out i y kw (by omega) hy hkw
            have h2 := (ho.lt g hg).2
            by_cases hjk : j = k
            · subst hjk
              rw [List.getElem?_set_self lk] at hkw'
              cases hkw'
              exact own_off nn (by have := SZ5.out; omega)
            · rw [List.getElem?_set_ne (by omega)] at hkw'
              exact AP.out i j kw kw' (by omega) (by omega) hij hkw hkw' g hg
        · intro i hi
          rw [List.getElem?_set_ne (by omega)]
          exact OLD.out i (by omega)
      case measure => simp [intOf]; omega
    · have hkn : k = ni := by omega
      have hge : ¬ (k : Int) < (ni : Int) := by omega
      have CI : Hid (CloneIns base base2 wr (.slice sv ni cv) t.ins ks) := ⟨LEN.out, OK.out, by rw [← NI.out]; exact O.out, BB.out, fun g hg => (IVB.out g hg).2, fun i x kv hx hkv => KEYS.out i x kv (by have := (List.getElem?_eq_some_iff.1 hx).1; have := NI.out; omega) hx hkv,
        fun i j kv kv' hij h1 h2 => AP.out i j kv kv' (by have := (List.getElem?_eq_some_iff.1 h1).1; have := NI.out; have := LEN.out; omega) (by have := (List.getElem?_eq_some_iff.1 h2).1; have := NI.out; have := LEN.out; omega) hij h1 h2⟩
      have c2 : wr.cell? ⟨w.heap.size, 2, none⟩ = some (.slice so no co) := by rw [cell_of_row _ _ _ _ _ _ F1.out]; rfl
      clear hkn O KEYS AP OLD
      go_wp2_with fail
      refine (clone_rowO no (outsL t.outs) _ wr (HVO.out wr B.out) LOUT.out (outsL_ones _) (by omega)).mono ?_
      rintro e w5 ⟨ov, rfl, ho, hb5⟩
      have ONEO := Lib.hid (own_one ho)
      have OO : Hid (OutsOwn wr.heap.size w5 ov t.outs) := ⟨by rw [← NO.out]; exact ho, TS.out.1.2.2.1⟩
      have F15 := Lib.hid (row_below F1.out hb5)
      have F25 := Lib.hid (row_below F2.out hb5)
      have B5 := Lib.hid (B.out.trans (hb5.mono B.out.size))
      have CI5 := Lib.hid (CI.out.keep hb5)
      have IL := Lib.hid CI.out.own.low
      have SZ : Hid (base ≤ wr.heap.size) := Nat.le_trans BB.out BS.out
      clear ho hb5 c2 CI F1 F2
      go_upto_region 8 with ((with_reducible show wpList _ _ _ _ _ _); refine wpList_store_part rfl 24 (.tmp 30) (.tmp 29) rfl w.heap.size 2 [nV vt, .slice sv ni cv] [.slice so no co] [nV tt] [ov] 26 ov rfl rfl (cells_one ONEO.out) rfl rfl F15.out (by kernel_rfl) (one_mem ONEO.out) ?_; intro w6 q1 q2; have F16 := Lib.hid q1; have Q6 := Lib.hid q2; clear q1 q2; go_frame)
      have F16 : Hid (w6.heap[w.heap.size]? = some (.cells [nV vt, .slice sv ni cv, ov, nV tt].toArray 26 (0, 0))) := F16.out
      have F26 := Lib.hid (row_far F25.out Q6.out NE21.out)
      have B6 := Lib.hid (B5.out.grown Q6.out B5.out.size (fun q hq => by cases hq; exact Nat.le_refl _))
      have CI6 := Lib.hid (CI5.out.other Q6.out WB.out)
      have OO6 := Lib.hid (OO.out.other Q6.out (Nat.lt_of_lt_of_le WB.out SZ.out))
      have ONE : Hid ([nV vt, .slice sv ni cv, ov, nV tt].toArray.all (·.oneCell') = true) := by
        show _ = _
        have b : ov.oneCell' = true := ONEO.out
        rw [Array.all_eq_true_iff_forall_mem]
        intro u hu
        simp only [List.mem_toArray, List.mem_cons, List.not_mem_nil, or_false] at hu
        rcases hu with rfl | rfl | rfl | rfl
        · rfl
        · rfl
        · exact b
        · rfl
      clear Q6 F15 F25 B5 CI5 OO
      go_wp2_with ((with_reducible show wpList _ _ _ _ _ _); first | (refine wpList_load_row rfl 26 (.tmp 1) rfl w.heap.size rfl 26 [nV vt, .slice sv ni cv, ov, nV tt].toArray (0, 0) _ F16.out Tryd.underlying26 rfl (by kernel_rfl) ?_; go_frame) | (refine wpList_store_row rfl 26 (.tmp 2) (.tmp 31) rfl g2 [nV vt, .slice sv ni cv, ov, nV tt].toArray rfl rfl 26 _ F26.out (by kernel_rfl) rfl ONE.out ?_; go_frame))
      refine bodyPost_ret (results_cell_row rfl _ _ g2 26 [nV vt, .slice sv ni cv, ov, nV tt].toArray (0, 0) _ rfl (setRow_heap _ _ _ _ _ _ F26.out) Tryd.underlying26 rfl (by kernel_rfl)) rfl ?_
      have HQ : w6.grownBy (w6.setRow g2 [nV vt, .slice sv ni cv, ov, nV tt].toArray) (some g2) := setRow_grown _
      have e1 := VT.out
      have e2 := TT.out
      refine ⟨.slice sv ni cv, ov, ks, base, base2, wr.heap.size, by rw [e1, e2]; rfl, B6.out.grown HQ B6.out.size (fun q hq => by cases hq; exact WG2.out), Nat.le_of_lt WB.out, CI6.out.other HQ G2B.out, OO6.out.other HQ (Nat.lt_of_lt_of_le G2B.out SZ.out), SZ.out, IL.out⟩
theorem CloneAt.tx {base base2 base3 : Nat} {w : World} {iv ov : Value} {t : TTx} {ks : List Value} (h : CloneAt base base2 base3 w iv ov t ks) (ht : TxOk t) : TxAt w (.agg (txL t iv ov).toArray) t := ⟨ht, iv, ov, rfl, h.1.own.at, h.2.1.at⟩
theorem clone_all : CloneC := fun t v w h1 hs => (clone_tx t v w h1 hs).mono fun _ _ ⟨_, _, _, _, _, _, he, hb, _, hc⟩ => ⟨_, he, hc.tx hs.1.1, hb⟩
end Go.Proofs.YtkabpbclmhmgfaaDoor.Sha

/-
  What literals of transactions, inputs, outputs and places lay. No conditions beyond those that each states.
-/
namespace Go.Proofs.YtkabpbclmhmgfaaDoor.Sha
open Go Go.RowKit

def zH : List UInt8 := List.replicate 32 0
theorem zH_length : zH.length = 32 := rfl
theorem built_ptn (n : Nat) : Tryd.prog.built 52 [(1, .int .u32 (n : Int))] = some (ptL zH n).toArray := by kernel_rfl
theorem built_inp (x : TIn) (hx : x.h.length = 32) (hs : x.seq = 0) : Tryd.prog.built 54 [(0, .agg (ptL x.h x.n).toArray)] = some (inL x (.slice none 0 0)).toArray := by
  have hz : ∀ parts, Tryd.prog.built 54 parts = Instr.fill ([(0, 33), (33, 1), (34, 1)].toArray[·]?) (List.replicate 32 (bV 0) ++ [nV 0, .slice none 0 0, nV 0]).toArray parts := fun parts => by kernel_rfl
  have hl : (ptL x.h x.n).length = 33 := by simp [ptL, hx]
  rw [hz, fill_part _ 0 0 (.agg (ptL x.h x.n).toArray) (ptL x.h x.n) _ _ rfl (by rw [hl]; rfl) (by rw [hl]; simp)]
  rw [List.take_zero, List.nil_append, Nat.zero_add, hl, inL, hs]
  rfl
theorem built_ink (x : TIn) (hx : x.h.length = 32) (kv : Value) (hk : kv.oneCell' = true) (hs : x.seq = 0) : Tryd.prog.built 54 [(0, .agg (ptL x.h x.n).toArray), (1, kv)] = some (inL x kv).toArray := by
  have hz : ∀ parts, Tryd.prog.built 54 parts = Instr.fill ([(0, 33), (33, 1), (34, 1)].toArray[·]?) (List.replicate 32 (bV 0) ++ [nV 0, .slice none 0 0, nV 0]).toArray parts := fun parts => by kernel_rfl
  have hl : (ptL x.h x.n).length = 33 := by simp [ptL, hx]
  rw [hz, fill_part _ 0 0 (.agg (ptL x.h x.n).toArray) (ptL x.h x.n) _ _ rfl (by rw [hl]; rfl) (by rw [hl]; simp)]
  rw [List.take_zero, List.nil_append, Nat.zero_add, hl]
  rw [fill_part _ 1 33 kv [kv] _ _ (cells_one hk) rfl (by simp [hl])]
  have e : List.drop (33 + [kv].length) (ptL x.h x.n ++ List.drop 33 (List.replicate 32 (bV 0) ++ [nV 0, .slice none 0 0, nV 0])) = [nV 0] := by
    rw [show 33 + [kv].length = (ptL x.h x.n).length + 1 by rw [hl]; rfl, ← List.drop_drop, List.drop_left]
    rfl
  rw [List.take_append_of_le_length (by omega), List.take_of_length_le (by omega), e, inL, hs]
  rw [List.append_assoc]
  rfl
theorem built_txs (iv ov : Value) (h1 : iv.oneCell' = true) (h2 : ov.oneCell' = true) : Tryd.prog.built 26 [(1, iv), (2, ov)] = some [nV 0, iv, ov, nV 0].toArray := by
  have hz : ∀ parts, Tryd.prog.built 26 parts = Instr.fill ([(0, 1), (1, 1), (2, 1), (3, 1)].toArray[·]?) [nV 0, .slice none 0 0, .slice none 0 0, nV 0].toArray parts := fun parts => by kernel_rfl
  rw [hz, fill_part _ 1 1 iv [iv] _ _ (cells_one h1) rfl (by simp), fill_part _ 2 2 ov [ov] _ _ (cells_one h2) rfl (by simp)]
  rfl
theorem built_outv (v : Nat) : Tryd.prog.built 57 [(0, .int .u64 (v : Int))] = some (outL ⟨v, zH⟩).toArray := by kernel_rfl
theorem built_out0 : Tryd.prog.built 57 [] = some (outL ⟨0, zH⟩).toArray := by kernel_rfl
end Go.Proofs.YtkabpbclmhmgfaaDoor.Sha

/-
  Rows of one or two inputs, or outputs, as slices; what is amiss with transactions of few inputs. Conditions: those that each states.
-/
namespace Go.Proofs.YtkabpbclmhmgfaaDoor.Sha
open Go Go.RowKit

theorem insAt_one {w : World} {g : Nat} {x : TIn} {kv : Value} {fr : Nat × Nat} (h : w.heap[g]? = some (.cells (inL x kv).toArray 54 fr)) (hx : InOk x) (hk : KeyAt w kv x.key) : InsAt w (.slice (some ⟨g, 0, none⟩) 1 1) [x] :=
  ⟨_, 1, rfl, Nat.le_refl _, fun _ => ⟨g, 0, rfl, fun i y hy => by
    have hi := (List.getElem?_eq_some_iff.1 hy).1
    simp at hi
    subst hi
    simp only [List.getElem?_cons_zero, Option.some.injEq] at hy
    subst hy
    exact ⟨hx, kv, hk, range_of_box h⟩⟩⟩
theorem insAt_two {w : World} {g : Nat} {x y : TIn} {kv kw : Value} {fr : Nat × Nat} (h : w.heap[g]? = some (.cells (inL x kv ++ inL y kw).toArray 54 fr)) (hx : InOk x) (hy : InOk y) (hk : KeyAt w kv x.key) (hk2 : KeyAt w kw y.key) : InsAt w (.slice (some ⟨g, 0, none⟩) 2 2) [x, y] :=
  ⟨_, 2, rfl, Nat.le_refl _, fun _ => ⟨g, 0, rfl, fun i z hz => by
    have hr := range_of_box h
    have hl := inL_length x kv hx.1
    have hi := (List.getElem?_eq_some_iff.1 hz).1
    simp at hi
    obtain rfl | rfl : i = 0 ∨ i = 1 := by omega
    · simp only [List.getElem?_cons_zero, Option.some.injEq] at hz
      subst hz
      exact ⟨hx, kv, hk, fun j u hj => by
        have := hr j u (by rw [List.getElem?_append_left (List.getElem?_eq_some_iff.1 hj).1]; exact hj)
        simpa using this⟩
    · simp only [List.getElem?_cons_succ, List.getElem?_cons_zero, Option.some.injEq] at hz
      subst hz
      exact ⟨hy, kw, hk2, fun j u hj => by
        have := hr (35 + j) u (by rw [List.getElem?_append_right (by omega), hl, Nat.add_sub_cancel_left]; exact hj)
        simpa [Nat.add_assoc] using this⟩⟩⟩
theorem outsAt_one {w : World} {g : Nat} {y : TOut} {fr : Nat × Nat} (h : w.heap[g]? = some (.cells (outL y).toArray 57 fr)) (hy : OutOk y) : OutsAt w (.slice (some ⟨g, 0, none⟩) 1 1) [y] :=
  ⟨_, 1, rfl, Nat.le_refl _, fun _ => ⟨g, 0, rfl, fun i z hz => by
    have hi := (List.getElem?_eq_some_iff.1 hz).1
    simp at hi
    subst hi
    simp only [List.getElem?_cons_zero, Option.some.injEq] at hz
    subst hz
    exact ⟨hy, range_of_box h⟩⟩⟩
theorem nil_key (w : World) : KeyAt w (.slice none 0 0) [] := ⟨.inl ⟨_, _, rfl, rfl⟩, _, _, rfl⟩
def hOne : List UInt8 := 1 :: List.replicate 31 0
def bsX (bs : List UInt8) : TIn := ⟨zH, 4294967295, bs, 0⟩
def bsO (v : Nat) : TOut := ⟨v % 1000, zH⟩
def bsN : TIn := ⟨zH, 1, [], 0⟩
def bsV : TIn := ⟨hOne, 4294967295, [], 0⟩
def bsT (bs : List UInt8) (v : Nat) : TTx := ⟨0, [bsX bs], [bsO v], 0⟩
def bsU (bs : List UInt8) (v : Nat) : TTx := ⟨0, [bsN, bsX bs], [bsO v], 0⟩
def bsW (v : Nat) : TTx := ⟨0, [bsV], [bsO v], 0⟩
theorem bsX_ok (bs : List UInt8) : InOk (bsX bs) := ⟨rfl, Nat.le_refl _, Nat.zero_le _⟩
theorem bsN_ok : InOk bsN := ⟨rfl, by decide, Nat.zero_le _⟩
theorem bsV_ok : InOk bsV := ⟨rfl, Nat.le_refl _, Nat.zero_le _⟩
theorem bsO_ok (v : Nat) : OutOk (bsO v) := ⟨rfl, by show v % 1000 ≤ _; omega⟩
theorem small_of {l : List TIn} {v : Nat} (h1 : InsOk l) (h2 : l.length ≤ 2) (h3 : KeysLe l 80) : TxSmall ⟨0, l, [bsO v], 0⟩ :=
  ⟨⟨⟨Nat.zero_le _, Nat.zero_le _⟩, h1, fun y hy => by rw [List.mem_singleton.1 hy]; exact bsO_ok v, fun x hx => Nat.le_trans (h3 x hx) (by omega), by show l.length ≤ _; omega, by simp⟩, by show l.length ≤ _; omega, by simp, fun x hx => Nat.le_trans (h3 x hx) (by omega)⟩
theorem bs_sum (v : Nat) : sumIs [(bsO v).val] = true := by
  unfold sumIs
  rw [decide_eq_true_eq, most_eq]
  simp [bsO]
  omega
theorem bsT_small {bs : List UInt8} (v : Nat) (h : bs.length ≤ 80) : TxSmall (bsT bs v) := small_of (fun x hx => by rw [List.mem_singleton.1 hx]; exact bsX_ok bs) (by simp) (fun x hx => by rw [List.mem_singleton.1 hx]; exact h)
theorem bsU_small {bs : List UInt8} (v : Nat) (h : bs.length ≤ 80) : TxSmall (bsU bs v) := by
  refine small_of (fun x hx => ?_) (by simp) (fun x hx => ?_)
  · simp only [List.mem_cons, List.not_mem_nil, or_false] at hx
    rcases hx with rfl | rfl
    · exact bsN_ok
    · exact bsX_ok bs
  · simp only [List.mem_cons, List.not_mem_nil, or_false] at hx
    rcases hx with rfl | rfl
    · exact Nat.zero_le _
    · exact h
theorem bsW_small (v : Nat) : TxSmall (bsW v) := small_of (fun x hx => by rw [List.mem_singleton.1 hx]; exact bsV_ok) (by simp) (fun x hx => by rw [List.mem_singleton.1 hx]; exact Nat.zero_le _)
theorem zH_null : decide (zH = List.replicate 32 0) = true := by decide
theorem hOne_null : decide (hOne = List.replicate 32 0) = false := by decide
theorem bsX_null (bs : List UInt8) : isNullIn (bsX bs) = true := by
  unfold isNullIn bsX
  simp only [zH_null]
  rfl
theorem bsN_null : isNullIn bsN = false := by
  unfold isNullIn bsN
  simp
theorem bsV_null : isNullIn bsV = false := by
  unfold isNullIn bsV
  simp only [hOne_null]
  rfl
theorem bsT_base (bs : List UInt8) (v : Nat) : true = baseB (bsT bs v) := (bsX_null bs).symm
theorem bsU_base (bs : List UInt8) (v : Nat) : false = baseB (bsU bs v) := rfl
theorem bsW_base (v : Nat) : false = baseB (bsW v) := bsV_null.symm
theorem bsT_check {bs : List UInt8} (v : Nat) (h : bs.length ≤ 80) : checkC (bsT bs v) = if bs.length < 4 then 7 else 0 := by
  rw [chkC_rest (by simp [bsT])]
  have hb := (bsT_small v h).bytes
  have h1 : (insB (bsT bs v).ins).length ≤ 200 := by
    have e : insB (bsT bs v).ins = inB (bsX bs) := by simp [insB, bsT]
    rw [e, inB_length _ (bsX_ok bs)]
    have := lenN_bd (bsX bs).key.length
    have : (bsX bs).key.length = bs.length := rfl
    omega
  have h2 := lenN_bd (bsT bs v).ins.length
  have h3 := lenN_bd (bsT bs v).outs.length
  have h4 : (bsT bs v).outs.length = 1 := rfl
  rw [if_neg (by omega), if_neg (by show ¬ 80 < max 0 bs.length; omega), if_neg (by show ¬ sumIs [(bsO v).val] = false; rw [bs_sum]; simp), if_neg (by show ¬ (false || false) = true; simp)]
  have hr : rightB (bsT bs v) = !decide (bs.length < 4) := by
    unfold rightB
    rw [← bsT_base]
    simp [bsT, bsX]
  rw [hr]
  by_cases h5 : bs.length < 4
  · rw [if_pos h5, decide_eq_true h5]; rfl
  · rw [if_neg h5, decide_eq_false h5]; rfl
theorem bsU_check {bs : List UInt8} (v : Nat) (h : bs.length ≤ 80) : checkC (bsU bs v) = 7 := by
  rw [chkC_rest (by simp [bsU])]
  have hb := (bsU_small v h).bytes
  have h1 : (insB (bsU bs v).ins).length ≤ 300 := by
    have e : insB (bsU bs v).ins = inB bsN ++ inB (bsX bs) := by simp [insB, bsU]
    rw [e, List.length_append, inB_length _ (bsX_ok bs), inB_length _ bsN_ok]
    have := lenN_bd (bsX bs).key.length
    have := lenN_bd bsN.key.length
    have : (bsX bs).key.length = bs.length := rfl
    have : bsN.key.length = 0 := rfl
    omega
  have h2 := lenN_bd (bsU bs v).ins.length
  have h3 := lenN_bd (bsU bs v).outs.length
  have h4 : (bsU bs v).outs.length = 1 := rfl
  have h5 : twiceB (bsU bs v).ins = false := by
    show ((samePtIn bsN (bsX bs) || false) || (false || false)) = false
    have : samePtIn bsN (bsX bs) = false := by simp [samePtIn, bsN, bsX]
    rw [this]
    rfl
  have hr : rightB (bsU bs v) = false := by
    unfold rightB
    rw [← bsU_base]
    show (!(isNullIn bsN || (isNullIn (bsX bs) || false))) = false
    rw [bsX_null]
    simp
  rw [if_neg (by omega), if_neg (by show ¬ 80 < max (max 0 0) bs.length; omega), if_neg (by show ¬ sumIs [(bsO v).val] = false; rw [bs_sum]; simp), if_neg (by rw [h5]; simp), if_neg (by rw [hr]; simp)]
theorem bsW_check (v : Nat) : checkC (bsW v) = 0 := by
  rw [chkC_rest (by simp [bsW])]
  have hb := (bsW_small v).bytes
  have h1 : (insB (bsW v).ins).length ≤ 200 := by
    have e : insB (bsW v).ins = inB bsV := by simp [insB, bsW]
    rw [e, inB_length _ bsV_ok]
    have := lenN_bd bsV.key.length
    have : bsV.key.length = 0 := rfl
    omega
  have h2 := lenN_bd (bsW v).ins.length
  have h3 := lenN_bd (bsW v).outs.length
  have h4 : (bsW v).outs.length = 1 := rfl
  have hr : rightB (bsW v) = true := by
    unfold rightB
    rw [← bsW_base]
    show (!(isNullIn bsV || false)) = true
    rw [bsV_null]
    rfl
  rw [if_neg (by omega), if_neg (by show ¬ 80 < max 0 0; omega), if_neg (by show ¬ sumIs [(bsO v).val] = false; rw [bs_sum]; simp), if_neg (by show ¬ (false || false) = true; simp), if_pos hr]
end Go.Proofs.YtkabpbclmhmgfaaDoor.Sha

/-
  The statement on transactions that make coins answers true. Conditions: the key's bytes lie where the slice says; the errors are there.
-/
namespace Go.Proofs.YtkabpbclmhmgfaaDoor.Sha
open Go Go.RowKit

theorem lay3 (w : World) (A B C : Array Value) (T1 T2 T3 : TypeId) : Below w.heap.size w (((w.alloc (.cells A T1 (0, 0))).alloc (.cells B T2 (0, 0))).alloc (.cells C T3 (0, 0)))
    ∧ (((w.alloc (.cells A T1 (0, 0))).alloc (.cells B T2 (0, 0))).alloc (.cells C T3 (0, 0))).heap[w.heap.size]? = some (.cells A T1 (0, 0))
    ∧ (((w.alloc (.cells A T1 (0, 0))).alloc (.cells B T2 (0, 0))).alloc (.cells C T3 (0, 0))).heap[w.heap.size + 1]? = some (.cells B T2 (0, 0))
    ∧ (((w.alloc (.cells A T1 (0, 0))).alloc (.cells B T2 (0, 0))).alloc (.cells C T3 (0, 0))).heap[w.heap.size + 2]? = some (.cells C T3 (0, 0))
    ∧ (((w.alloc (.cells A T1 (0, 0))).alloc (.cells B T2 (0, 0))).alloc (.cells C T3 (0, 0))).heap.size = w.heap.size + 3 := by
  have hb : ∀ (w : World) (o : Obj), Below w.heap.size w (w.alloc o) := fun w o => (Below.refl _ _).alloc (Nat.le_refl _) o
  refine ⟨(hb w _).trans (((hb _ _).trans ((hb _ _).mono (by simp))).mono (by simp)), ?_, ?_, ?_, by simp⟩
  · exact row_below (row_below (heap_alloc_new w _) (hb _ _)) (hb _ _)
  · have := row_below (heap_alloc_new (w.alloc (.cells A T1 (0, 0))) (.cells B T2 (0, 0))) (hb _ (.cells C T3 (0, 0)))
    rwa [World.size_alloc] at this
  · have := heap_alloc_new ((w.alloc (.cells A T1 (0, 0))).alloc (.cells B T2 (0, 0))) (.cells C T3 (0, 0))
    rwa [World.size_alloc, World.size_alloc] at this
set_option maxHeartbeats 4000000 in
set_option maxRecDepth 100000 in
theorem txbases_main (E : Nat → Addr) (HF : ∀ w, Calls Tryd.prog 9 #[] w fun e w' => e = .returned (.bool true) ∧ Below w.heap.size w w')
    (bs : List UInt8) (sp : Option Addr) (n cap nv : Nat) (w : World) (hE : Errs w E) (hs : SrcB w (.slice sp n cap) bs) (hn0 : n ≤ 9223372036854775807) (hv : nv ≤ 18446744073709551615) :
    Calls Tryd.prog 8 #[.slice sp n cap, .int .u64 (nv : Int)] w fun e w' => e = .returned (.bool true) ∧ Below w.heap.size w w' := by
  have HE := Lib.hid hE
  have HS := Lib.hid hs
  have HL := Lib.hid hs.le.1
  have HF := Lib.hid HF
  have bv0 : 0 ≤ (nv : Int) ∧ (nv : Int) ≤ 18446744073709551615 := by omega
  clear hE hs
  go_enter Tryd.func8, Tryd.ntmps8
  go_wp2_with fail
  refine (HF.out w).mono ?_
  rintro e w1 ⟨rfl, hb1⟩
  have B1 := Lib.hid hb1
  clear hb1
  by_cases hn : n ≤ 80
  rotate_left
  · have c1 : (80 : Int) < (n : Int) := by omega
    go_wp2_with fail
    go_ret
    exact ⟨rfl, B1.out⟩
  have c1 : ¬ (80 : Int) < (n : Int) := by omega
  have LB : Hid (bs.length ≤ 80) := by rw [← HL.out]; exact hn
  go_wp2_with fail
  refine (rnull_any w1).mono ?_
  rintro e w2 ⟨rfl, hb2⟩
  have B2 := Lib.hid (B1.out.trans (hb2.mono B1.out.size))
  clear hb2 c1
  obtain ⟨i0, hi, hz0, hz1, hz2⟩ := info_parts info_in
  obtain ⟨j0, hj, hy0, hy1, hy2⟩ := info_parts info_out
  have LX : Hid ((inL (bsX bs) (.slice sp n cap)).length = 35) := inL_length _ _ rfl
  have LO : Hid ((outL (bsO nv)).length = 33) := outL_length _ rfl
  have BI : Hid (Tryd.prog.built 54 [(0, .agg nullL.toArray), (1, .slice sp n cap)] = some (inL (bsX bs) (.slice sp n cap)).toArray) := built_ink (bsX bs) rfl _ rfl rfl
  obtain ⟨sI, hsI⟩ : ∃ sI, sI = Value.slice (some ⟨w2.heap.size, 0, none⟩) 1 1 := ⟨_, rfl⟩
  obtain ⟨sO, hsO⟩ : ∃ sO, sO = Value.slice (some ⟨w2.heap.size + 1, 0, none⟩) 1 1 := ⟨_, rfl⟩
  go_upto_region 7 with ((with_reducible show wpList _ _ _ _ _ _); first | (refine wpList_buildTo rfl 54 _ rfl _ rfl (inL (bsX bs) (.slice sp n cap)).toArray (by kernel_rfl) ?_; go_frame) | (refine wpList_slice_one rfl 23 54 (.tmp 19) rfl (inL (bsX bs) (.slice sp n cap)) rfl Tryd.underlying23 i0 _ hi hz0 (by rw [hz1, LX.out]) (by rw [LX.out]; omega) (by rw [LX.out]; omega) ?_; go_frame) | (refine wpList_buildTo rfl 57 _ rfl _ rfl (outL (bsO nv)).toArray (by kernel_rfl) ?_; go_frame) | (refine wpList_slice_one rfl 24 57 (.tmp 23) rfl (outL (bsO nv)) rfl Tryd.underlying24 j0 _ hj hy0 (by rw [hy1, LO.out]) (by rw [LO.out]; omega) (by rw [LO.out]; omega) ?_; go_frame) | (refine wpList_buildTo rfl 26 _ rfl _ rfl [nV 0, .slice (some ⟨w2.heap.size, 0, none⟩) 1 1, .slice (some ⟨w2.heap.size + 1, 0, none⟩) 1 1, nV 0].toArray (built_txs _ _ rfl rfl) ?_; go_frame))
  obtain ⟨b3, f1, f2, f3, f4⟩ := lay3 w2 (inL (bsX bs) (.slice sp n cap)).toArray (outL (bsO nv)).toArray [nV 0, .slice (some ⟨w2.heap.size, 0, none⟩) 1 1, .slice (some ⟨w2.heap.size + 1, 0, none⟩) 1 1, nV 0].toArray 54 57 26
  simp only [World.size_alloc]
  generalize hw3 : World.alloc (World.alloc (World.alloc w2 _) _) _ = w3
  have e3 : ((w2.alloc (.cells (inL (bsX bs) (.slice sp n cap)).toArray 54 (0, 0))).alloc (.cells (outL (bsO nv)).toArray 57 (0, 0))).alloc (.cells [nV 0, .slice (some ⟨w2.heap.size, 0, none⟩) 1 1, .slice (some ⟨w2.heap.size + 1, 0, none⟩) 1 1, nV 0].toArray 26 (0, 0)) = w3 := hw3
  rw [e3] at b3 f1 f2 f3 f4
  obtain ⟨gI, hgI⟩ : ∃ gI, gI = w2.heap.size := ⟨_, rfl⟩
  obtain ⟨gO, hgO⟩ : ∃ gO, gO = w2.heap.size + 1 := ⟨_, rfl⟩
  obtain ⟨g6, hg6⟩ : ∃ g6, g6 = w2.heap.size + 2 := ⟨_, rfl⟩
  have hg6' : w2.heap.size + 1 + 1 = g6 := by omega
  rw [← hg6, ← hgO, ← hgI] at f3
  rw [← hgI] at f1
  rw [← hgO] at f2
  rw [hg6']
  try rw [← hgO]
  try rw [← hgI]
  have B3 := Lib.hid (B2.out.trans (b3.mono B2.out.size))
  have FI3 := Lib.hid f1
  have FO3 := Lib.hid f2
  have F63 := Lib.hid f3
  have L6 : Hid (gI < g6 ∧ gO < g6 ∧ g6 < w3.heap.size) := by show _ ∧ _ ∧ _; omega
  have WI : Hid (w.heap.size ≤ gI) := by show _ ≤ _; rw [hgI]; exact B2.out.size
  clear b3 f1 f2 f3 f4 hw3 e3 hg6' hgI hgO hg6 hsI hsO sI sO BI
  go_upto_region 8 with ((with_reducible show wpList _ _ _ _ _ _); first | (refine wpList_load_row rfl 26 (.tmp 6) rfl g6 rfl 26 [nV 0, .slice (some ⟨gI, 0, none⟩) 1 1, .slice (some ⟨gO, 0, none⟩) 1 1, nV 0].toArray (0, 0) _ F63.out Tryd.underlying26 rfl (by kernel_rfl) ?_; go_frame) | (refine wpList_store_row rfl 26 (.tmp 7) (.tmp 26) rfl w3.heap.size [nV 0, .slice (some ⟨gI, 0, none⟩) 1 1, .slice (some ⟨gO, 0, none⟩) 1 1, nV 0].toArray rfl rfl 26 _ (heap_alloc_new _ _) (by kernel_rfl) rfl (by kernel_rfl) ?_; go_frame))
  obtain ⟨_, f7, _, b7⟩ := fill_setup (Below.refl w3.heap.size w3) [nV 0, .slice none 0 0, .slice none 0 0, nV 0].toArray [nV 0, .slice (some ⟨gI, 0, none⟩) 1 1, .slice (some ⟨gO, 0, none⟩) 1 1, nV 0].toArray 26
  obtain ⟨g7, hg7⟩ : ∃ g7, g7 = w3.heap.size := ⟨_, rfl⟩
  generalize hw4 : World.setRow _ _ _ = w4
  have e4 : World.setRow (w3.alloc (.cells [nV 0, .slice none 0 0, .slice none 0 0, nV 0].toArray 26)) w3.heap.size [nV 0, .slice (some ⟨gI, 0, none⟩) 1 1, .slice (some ⟨gO, 0, none⟩) 1 1, nV 0].toArray = w4 := hw4
  rw [e4] at f7 b7
  rw [← hg7] at f7 ⊢
  have B4 := Lib.hid (B3.out.trans (b7.mono B3.out.size))
  have FI4 := Lib.hid (row_below FI3.out b7)
  have FO4 := Lib.hid (row_below FO3.out b7)
  have F64 := Lib.hid (row_below F63.out b7)
  have F74 := Lib.hid f7
  have L7 : Hid (g6 < g7 ∧ g7 < w4.heap.size) := ⟨by have := L6.out; omega, (Array.getElem?_eq_some_iff.1 f7).1⟩
  have RI4 := Lib.hid (range_of_box FI4.out)
  have LXt : Hid ((inL (bsX bs) (.slice sp n cap)).length = 35) := LX.out
  have LN : Hid ((inL bsN (.slice none 0 0)).length = 35) := inL_length _ _ rfl
  have c6 : w4.cell? ⟨g6, 1, none⟩ = some (.slice (some ⟨gI, 0, none⟩) 1 1) := by rw [cell_of_row _ _ _ _ _ _ F64.out]; rfl
  clear f7 b7 hw4 e4 hg7
  go_upto_region 9 with ((with_reducible show wpList _ _ _ _ _ _); first | (refine wpList_buildTo rfl 52 _ rfl _ rfl (ptL zH 1).toArray (by kernel_rfl) ?_; go_frame) | (refine wpList_buildTo rfl 54 _ rfl _ rfl (inL bsN (.slice none 0 0)).toArray (by kernel_rfl) ?_; go_frame) | (refine wpList_load_mid rfl 54 (.tmp 31) rfl gI 0 rfl (inL (bsX bs) (.slice sp n cap)) _ RI4.out Tryd.underlying54 rfl (by rw [LXt.out]; kernel_rfl) ?_; go_frame) | (refine wpList_slice_two rfl 23 54 (.tmp 28) (.tmp 32) rfl (inL bsN (.slice none 0 0)) (inL (bsX bs) (.slice sp n cap)) rfl rfl Tryd.underlying23 i0 _ hi hz0 (by rw [hz1, LN.out]) (by rw [hz1, LXt.out]) (by rw [LN.out]; omega) (by rw [LN.out]; omega) ?_; have fU := Lib.hid (heap_alloc_new w4 (.cells (inL bsN (.slice none 0 0) ++ inL (bsX bs) (.slice sp n cap)).toArray 54 (0, 0))); have bU := Lib.hid ((Below.refl w4.heap.size w4).alloc (Nat.le_refl _) (.cells (inL bsN (.slice none 0 0) ++ inL (bsX bs) (.slice sp n cap)).toArray 54 (0, 0))); go_frame) | (refine wpList_store_part rfl 23 (.tmp 34) (.tmp 33) rfl g7 1 [nV 0] [.slice (some ⟨gI, 0, none⟩) 1 1] [.slice (some ⟨gO, 0, none⟩) 1 1, nV 0] [.slice (some ⟨w4.heap.size, 0, none⟩) 2 2] 26 (.slice (some ⟨w4.heap.size, 0, none⟩) 2 2) rfl rfl rfl rfl rfl (row_below F74.out bU.out) (by kernel_rfl) (one_mem rfl) ?_; intro w5 q1 q2; have F75 := Lib.hid q1; have Q5 := Lib.hid q2; clear q1 q2; go_frame))
  obtain ⟨gU, hgU⟩ : ∃ gU, gU = w4.heap.size := ⟨_, rfl⟩
  rw [← hgU] at F75 fU ⊢
  have LU : Hid (g7 < gU) := by show _ < _; rw [hgU]; exact L7.out.2
  have FI5 := Lib.hid (row_far (row_below FI4.out bU.out) Q5.out (fun e => by have := Option.some.inj e; have := L6.out; have := L7.out; omega))
  have FO5 := Lib.hid (row_far (row_below FO4.out bU.out) Q5.out (fun e => by have := Option.some.inj e; have := L6.out; have := L7.out; omega))
  have F65 := Lib.hid (row_far (row_below F64.out bU.out) Q5.out (fun e => by have := Option.some.inj e; have := L7.out; omega))
  have FU5 := Lib.hid (row_far fU.out Q5.out (fun e => by have := Option.some.inj e; have := LU.out; omega))
  have F75 : Hid (w5.heap[g7]? = some (.cells [nV 0, .slice (some ⟨gU, 0, none⟩) 2 2, .slice (some ⟨gO, 0, none⟩) 1 1, nV 0].toArray 26 (0, 0))) := F75.out
  have B5 := Lib.hid ((B4.out.trans (bU.out.mono B4.out.size)).grown Q5.out (Nat.le_trans B4.out.size bU.out.size) (fun k hk => by cases hk; have := WI.out; have := L6.out; have := L7.out; omega))
  clear c6 bU Q5 fU hgU FI4 FO4 F64 F74 FI3 FO3 F63 RI4
  go_upto_region 10 with ((with_reducible show wpList _ _ _ _ _ _); first | (refine wpList_load_row rfl 26 (.tmp 6) rfl g6 rfl 26 [nV 0, .slice (some ⟨gI, 0, none⟩) 1 1, .slice (some ⟨gO, 0, none⟩) 1 1, nV 0].toArray (0, 0) _ F65.out Tryd.underlying26 rfl (by kernel_rfl) ?_; go_frame) | (refine wpList_store_row rfl 26 (.tmp 8) (.tmp 35) rfl w5.heap.size [nV 0, .slice (some ⟨gI, 0, none⟩) 1 1, .slice (some ⟨gO, 0, none⟩) 1 1, nV 0].toArray rfl rfl 26 _ (heap_alloc_new _ _) (by kernel_rfl) rfl (by kernel_rfl) ?_; go_frame))
  obtain ⟨_, f8, _, b8⟩ := fill_setup (Below.refl w5.heap.size w5) [nV 0, .slice none 0 0, .slice none 0 0, nV 0].toArray [nV 0, .slice (some ⟨gI, 0, none⟩) 1 1, .slice (some ⟨gO, 0, none⟩) 1 1, nV 0].toArray 26
  obtain ⟨g8, hg8⟩ : ∃ g8, g8 = w5.heap.size := ⟨_, rfl⟩
  generalize hw6 : World.setRow _ _ _ = w6
  have e6 : World.setRow (w5.alloc (.cells [nV 0, .slice none 0 0, .slice none 0 0, nV 0].toArray 26)) w5.heap.size [nV 0, .slice (some ⟨gI, 0, none⟩) 1 1, .slice (some ⟨gO, 0, none⟩) 1 1, nV 0].toArray = w6 := hw6
  rw [e6] at f8 b8
  rw [← hg8] at f8 ⊢
  have B6 := Lib.hid (B5.out.trans (b8.mono B5.out.size))
  have FI6 := Lib.hid (row_below FI5.out b8)
  have FO6 := Lib.hid (row_below FO5.out b8)
  have F66 := Lib.hid (row_below F65.out b8)
  have F76 := Lib.hid (row_below F75.out b8)
  have FU6 := Lib.hid (row_below FU5.out b8)
  have F86 := Lib.hid f8
  have L8 : Hid (gU < g8) := by show _ < _; rw [hg8]; exact (Array.getElem?_eq_some_iff.1 FU5.out).1
  have LV : Hid ((inL bsV (.slice none 0 0)).length = 35) := inL_length _ _ rfl
  clear f8 b8 hw6 e6 hg8 FI5 FO5 F65 F75 FU5
  go_upto_region 11 with ((with_reducible show wpList _ _ _ _ _ _); first | (refine wpList_buildTo rfl 35 _ rfl _ rfl (hOne.map bV).toArray (by kernel_rfl) ?_; go_frame) | (refine wpList_buildTo rfl 52 _ rfl _ rfl (ptL hOne 4294967295).toArray (by kernel_rfl) ?_; go_frame) | (refine wpList_buildTo rfl 54 _ rfl _ rfl (inL bsV (.slice none 0 0)).toArray (by kernel_rfl) ?_; go_frame) | (refine wpList_slice_one rfl 23 54 (.tmp 38) rfl (inL bsV (.slice none 0 0)) rfl Tryd.underlying23 i0 _ hi hz0 (by rw [hz1, LV.out]) (by rw [LV.out]; omega) (by rw [LV.out]; omega) ?_; have fV := Lib.hid (heap_alloc_new w6 (.cells (inL bsV (.slice none 0 0)).toArray 54 (0, 0))); have bV' := Lib.hid ((Below.refl w6.heap.size w6).alloc (Nat.le_refl _) (.cells (inL bsV (.slice none 0 0)).toArray 54 (0, 0))); go_frame) | (refine wpList_store_part rfl 23 (.tmp 40) (.tmp 39) rfl g8 1 [nV 0] [.slice (some ⟨gI, 0, none⟩) 1 1] [.slice (some ⟨gO, 0, none⟩) 1 1, nV 0] [.slice (some ⟨w6.heap.size, 0, none⟩) 1 1] 26 (.slice (some ⟨w6.heap.size, 0, none⟩) 1 1) rfl rfl rfl rfl rfl (row_below F86.out bV'.out) (by kernel_rfl) (one_mem rfl) ?_; intro w7 q1 q2; have F87 := Lib.hid q1; have Q7 := Lib.hid q2; clear q1 q2; go_frame))
  obtain ⟨gV, hgV⟩ : ∃ gV, gV = w6.heap.size := ⟨_, rfl⟩
  rw [← hgV] at F87 fV ⊢
  have LVg : Hid (g8 < gV) := by show _ < _; rw [hgV]; exact (Array.getElem?_eq_some_iff.1 F86.out).1
  have FI7 := Lib.hid (row_far (row_below FI6.out bV'.out) Q7.out (fun e => by have := Option.some.inj e; have := L6.out; have := L7.out; have := LU.out; have := L8.out; omega))
  have FO7 := Lib.hid (row_far (row_below FO6.out bV'.out) Q7.out (fun e => by have := Option.some.inj e; have := L6.out; have := L7.out; have := LU.out; have := L8.out; omega))
  have FU7 := Lib.hid (row_far (row_below FU6.out bV'.out) Q7.out (fun e => by have := Option.some.inj e; have := L8.out; omega))
  have FV7 := Lib.hid (row_far fV.out Q7.out (fun e => by have := Option.some.inj e; have := LVg.out; omega))
  have G6R := Lib.hid (row_far (row_below F66.out bV'.out) Q7.out (fun e => by have := Option.some.inj e; have := L7.out; have := LU.out; have := L8.out; omega))
  have G7R := Lib.hid (row_far (row_below F76.out bV'.out) Q7.out (fun e => by have := Option.some.inj e; have := LU.out; have := L8.out; omega))
  have G8R : Hid (w7.heap[g8]? = some (.cells [nV 0, .slice (some ⟨gV, 0, none⟩) 1 1, .slice (some ⟨gO, 0, none⟩) 1 1, nV 0].toArray 26 (0, 0))) := F87.out
  have BZ := Lib.hid ((B6.out.trans (bV'.out.mono B6.out.size)).grown Q7.out (Nat.le_trans B6.out.size bV'.out.size) (fun k hk => by cases hk; have := WI.out; have := L6.out; have := L7.out; have := LU.out; have := L8.out; omega))
  clear bV' Q7 fV hgV FI6 FO6 F66 F76 F86 FU6 F87
  have KY : Hid (KeyAt w7 (.slice sp n cap) bs) := ⟨HS.out.below BZ.out, sp, cap, by rw [HL.out]⟩
  obtain ⟨sI, hsI⟩ : ∃ sI, sI = Value.slice (some ⟨gI, 0, none⟩) 1 1 := ⟨_, rfl⟩
  obtain ⟨sO, hsO⟩ : ∃ sO, sO = Value.slice (some ⟨gO, 0, none⟩) 1 1 := ⟨_, rfl⟩
  obtain ⟨sU, hsU⟩ : ∃ sU, sU = Value.slice (some ⟨gU, 0, none⟩) 2 2 := ⟨_, rfl⟩
  obtain ⟨sV, hsV⟩ : ∃ sV, sV = Value.slice (some ⟨gV, 0, none⟩) 1 1 := ⟨_, rfl⟩
  rw [← hsI, ← hsO] at G6R
  rw [← hsU, ← hsO] at G7R
  rw [← hsV, ← hsO] at G8R
  have TA6 : Hid (∀ w', Below w7.heap.size w7 w' → TxAt w' (.agg [nV 0, sI, sO, nV 0].toArray) (bsT bs nv)) := fun w' hw' => ⟨⟨Nat.zero_le _, Nat.zero_le _⟩, sI, sO, rfl, by rw [hsI]; exact insAt_one (row_below FI7.out hw') (bsX_ok bs) (KY.out.below hw'), by rw [hsO]; exact outsAt_one (row_below FO7.out hw') (bsO_ok nv)⟩
  have TA7 : Hid (∀ w', Below w7.heap.size w7 w' → TxAt w' (.agg [nV 0, sU, sO, nV 0].toArray) (bsU bs nv)) := fun w' hw' => ⟨⟨Nat.zero_le _, Nat.zero_le _⟩, sU, sO, rfl, by rw [hsU]; exact insAt_two (row_below FU7.out hw') bsN_ok (bsX_ok bs) (nil_key _) (KY.out.below hw'), by rw [hsO]; exact outsAt_one (row_below FO7.out hw') (bsO_ok nv)⟩
  have TA8 : Hid (∀ w', Below w7.heap.size w7 w' → TxAt w' (.agg [nV 0, sV, sO, nV 0].toArray) (bsW nv)) := fun w' hw' => ⟨⟨Nat.zero_le _, Nat.zero_le _⟩, sV, sO, rfl, by rw [hsV]; exact insAt_one (row_below FV7.out hw') bsV_ok (nil_key _), by rw [hsO]; exact outsAt_one (row_below FO7.out hw') (bsO_ok nv)⟩
  have SM6 := Lib.hid (bsT_small nv LB.out)
  have SM7 := Lib.hid (bsU_small nv LB.out)
  have SM8 := Lib.hid (bsW_small nv)
  have HC8 : Hid (0 = checkC (bsW nv)) := (bsW_check nv).symm
  obtain ⟨c7, hc7⟩ : ∃ c7, c7 = 7 := ⟨_, rfl⟩
  have HC7 : Hid (c7 = checkC (bsU bs nv)) := by show _ = _; rw [bsU_check nv LB.out, hc7]
  have HI7 : Hid (true = (numE c7 == (107 : Int))) := by show _ = _; rw [hc7]; rfl
  have HN7 : Hid (c7 ≤ 25) := by show _ ≤ _; omega
  obtain ⟨c6, hc6⟩ : ∃ c6, c6 = if n < 4 then 7 else 0 := ⟨_, rfl⟩
  have HC6 : Hid (c6 = checkC (bsT bs nv)) := by show _ = _; rw [bsT_check nv LB.out, hc6, HL.out]
  have BW0 := Lib.hid (Below.refl w7.heap.size w7)
  clear hsI hsO hsU hsV hc7
  by_cases h4 : n < 4
  · have q4 : (n : Int) < 4 := by omega
    have HI6 : Hid (true = (numE c6 == (107 : Int))) := by show _ = _; rw [hc6, if_pos h4]; rfl
    have HN6 : Hid (c6 ≤ 25) := by show _ ≤ _; rw [hc6, if_pos h4]; omega
    clear hc6 h4
    go_wp2_with ((with_reducible show wpList _ _ _ _ _ _); refine wpList_load_rowG 26 (.tmp 6) rfl g6 rfl 26 ([nV 0, sI, sO, nV 0]).toArray (0, 0) _ (row_below G6R.out BW0.out) Tryd.underlying26 rfl (by kernel_rfl) (by rfl) ?_; go_frame)
    refine (base_all (bsT bs nv) _ _ true (bsT_base bs nv) (TA6.out _ BW0.out) SM6.out).mono ?_
    rintro e n1 ⟨rfl, hx⟩
    have BW1 := Lib.hid (BW0.out.trans (hx.mono BW0.out.size))
    clear hx
    go_wp2_with ((with_reducible show wpList _ _ _ _ _ _); refine wpList_load_rowG 26 (.tmp 7) rfl g7 rfl 26 ([nV 0, sU, sO, nV 0]).toArray (0, 0) _ (row_below G7R.out BW1.out) Tryd.underlying26 rfl (by kernel_rfl) (by rfl) ?_; go_frame)
    refine (base_all (bsU bs nv) _ _ false (bsU_base bs nv) (TA7.out _ BW1.out) SM7.out).mono ?_
    rintro e n2 ⟨rfl, hx⟩
    have BW2 := Lib.hid (BW1.out.trans (hx.mono BW1.out.size))
    clear hx
    go_wp2_with ((with_reducible show wpList _ _ _ _ _ _); refine wpList_load_rowG 26 (.tmp 8) rfl g8 rfl 26 ([nV 0, sV, sO, nV 0]).toArray (0, 0) _ (row_below G8R.out BW2.out) Tryd.underlying26 rfl (by kernel_rfl) (by rfl) ?_; go_frame)
    refine (base_all (bsW nv) _ _ false (bsW_base nv) (TA8.out _ BW2.out) SM8.out).mono ?_
    rintro e n3 ⟨rfl, hx⟩
    have BW3 := Lib.hid (BW2.out.trans (hx.mono BW2.out.size))
    clear hx
    go_wp2_with ((with_reducible show wpList _ _ _ _ _ _); refine wpList_load_rowG 26 (.tmp 6) rfl g6 rfl 26 ([nV 0, sI, sO, nV 0]).toArray (0, 0) _ (row_below G6R.out BW3.out) Tryd.underlying26 rfl (by kernel_rfl) (by rfl) ?_; go_frame)
    refine (check_all E (bsT bs nv) _ _ c6 HC6.out ((HE.out.below BZ.out).e8.below BW3.out) (TA6.out _ BW3.out) SM6.out).mono ?_
    rintro e n4 ⟨rfl, hx⟩
    have BW4 := Lib.hid (BW3.out.trans (hx.mono BW3.out.size))
    clear hx
    go_wp2_with fail
    refine (is_any E c6 107 true HI6.out n4 ((HE.out.below BZ.out).below BW4.out) HN6.out).mono ?_
    rintro e n5 ⟨rfl, hx⟩
    have BW5 := Lib.hid (BW4.out.trans (hx.mono BW4.out.size))
    clear hx
    go_wp2_with ((with_reducible show wpList _ _ _ _ _ _); refine wpList_load_rowG 26 (.tmp 7) rfl g7 rfl 26 ([nV 0, sU, sO, nV 0]).toArray (0, 0) _ (row_below G7R.out BW5.out) Tryd.underlying26 rfl (by kernel_rfl) (by rfl) ?_; go_frame)
    refine (check_all E (bsU bs nv) _ _ c7 HC7.out ((HE.out.below BZ.out).e8.below BW5.out) (TA7.out _ BW5.out) SM7.out).mono ?_
    rintro e n6 ⟨rfl, hx⟩
    have BW6 := Lib.hid (BW5.out.trans (hx.mono BW5.out.size))
    clear hx
    go_wp2_with fail
    refine (is_any E c7 107 true HI7.out n6 ((HE.out.below BZ.out).below BW6.out) HN7.out).mono ?_
    rintro e n7 ⟨rfl, hx⟩
    have BW7 := Lib.hid (BW6.out.trans (hx.mono BW6.out.size))
    clear hx
    have CV := check_all E (bsW nv) (.agg ([nV 0, sV, sO, nV 0]).toArray) n7 0 HC8.out ((HE.out.below BZ.out).e8.below BW7.out) (TA8.out _ BW7.out) SM8.out
    change Calls _ _ _ _ (fun e w' => e = .returned .nilIface ∧ Below n7.heap.size n7 w') at CV
    have CV := Lib.hid CV
    go_wp2_with ((with_reducible show wpList _ _ _ _ _ _); refine wpList_load_rowG 26 (.tmp 8) rfl g8 rfl 26 ([nV 0, sV, sO, nV 0]).toArray (0, 0) _ (row_below G8R.out BW7.out) Tryd.underlying26 rfl (by kernel_rfl) (by rfl) ?_; go_frame)
    refine CV.out.mono ?_
    rintro e n8 ⟨rfl, hx⟩
    have BW8 := Lib.hid (BW7.out.trans (hx.mono BW7.out.size))
    clear hx CV
    go_wp2_with fail
    go_ret
    exact ⟨rfl, BZ.out.trans (BW8.out.mono BZ.out.size)⟩
  · have q4 : ¬ (n : Int) < 4 := by omega
    have HI6 : Hid (true = (numE c6 == (0 : Int))) := by show _ = _; rw [hc6, if_neg h4]; rfl
    have HN6 : Hid (c6 ≤ 25) := by show _ ≤ _; rw [hc6, if_neg h4]; omega
    clear hc6 h4
    go_wp2_with ((with_reducible show wpList _ _ _ _ _ _); refine wpList_load_rowG 26 (.tmp 6) rfl g6 rfl 26 ([nV 0, sI, sO, nV 0]).toArray (0, 0) _ (row_below G6R.out BW0.out) Tryd.underlying26 rfl (by kernel_rfl) (by rfl) ?_; go_frame)
    refine (base_all (bsT bs nv) _ _ true (bsT_base bs nv) (TA6.out _ BW0.out) SM6.out).mono ?_
    rintro e n1 ⟨rfl, hx⟩
    have BW1 := Lib.hid (BW0.out.trans (hx.mono BW0.out.size))
    clear hx
    go_wp2_with ((with_reducible show wpList _ _ _ _ _ _); refine wpList_load_rowG 26 (.tmp 7) rfl g7 rfl 26 ([nV 0, sU, sO, nV 0]).toArray (0, 0) _ (row_below G7R.out BW1.out) Tryd.underlying26 rfl (by kernel_rfl) (by rfl) ?_; go_frame)
    refine (base_all (bsU bs nv) _ _ false (bsU_base bs nv) (TA7.out _ BW1.out) SM7.out).mono ?_
    rintro e n2 ⟨rfl, hx⟩
    have BW2 := Lib.hid (BW1.out.trans (hx.mono BW1.out.size))
    clear hx
    go_wp2_with ((with_reducible show wpList _ _ _ _ _ _); refine wpList_load_rowG 26 (.tmp 8) rfl g8 rfl 26 ([nV 0, sV, sO, nV 0]).toArray (0, 0) _ (row_below G8R.out BW2.out) Tryd.underlying26 rfl (by kernel_rfl) (by rfl) ?_; go_frame)
    refine (base_all (bsW nv) _ _ false (bsW_base nv) (TA8.out _ BW2.out) SM8.out).mono ?_
    rintro e n3 ⟨rfl, hx⟩
    have BW3 := Lib.hid (BW2.out.trans (hx.mono BW2.out.size))
    clear hx
    go_wp2_with ((with_reducible show wpList _ _ _ _ _ _); refine wpList_load_rowG 26 (.tmp 6) rfl g6 rfl 26 ([nV 0, sI, sO, nV 0]).toArray (0, 0) _ (row_below G6R.out BW3.out) Tryd.underlying26 rfl (by kernel_rfl) (by rfl) ?_; go_frame)
    refine (check_all E (bsT bs nv) _ _ c6 HC6.out ((HE.out.below BZ.out).e8.below BW3.out) (TA6.out _ BW3.out) SM6.out).mono ?_
    rintro e n4 ⟨rfl, hx⟩
    have BW4 := Lib.hid (BW3.out.trans (hx.mono BW3.out.size))
    clear hx
    go_wp2_with fail
    refine (is_any E c6 0 true HI6.out n4 ((HE.out.below BZ.out).below BW4.out) HN6.out).mono ?_
    rintro e n5 ⟨rfl, hx⟩
    have BW5 := Lib.hid (BW4.out.trans (hx.mono BW4.out.size))
    clear hx
    go_wp2_with ((with_reducible show wpList _ _ _ _ _ _); refine wpList_load_rowG 26 (.tmp 7) rfl g7 rfl 26 ([nV 0, sU, sO, nV 0]).toArray (0, 0) _ (row_below G7R.out BW5.out) Tryd.underlying26 rfl (by kernel_rfl) (by rfl) ?_; go_frame)
    refine (check_all E (bsU bs nv) _ _ c7 HC7.out ((HE.out.below BZ.out).e8.below BW5.out) (TA7.out _ BW5.out) SM7.out).mono ?_
    rintro e n6 ⟨rfl, hx⟩
    have BW6 := Lib.hid (BW5.out.trans (hx.mono BW5.out.size))
    clear hx
    go_wp2_with fail
    refine (is_any E c7 107 true HI7.out n6 ((HE.out.below BZ.out).below BW6.out) HN7.out).mono ?_
    rintro e n7 ⟨rfl, hx⟩
    have BW7 := Lib.hid (BW6.out.trans (hx.mono BW6.out.size))
    clear hx
    have CV := check_all E (bsW nv) (.agg ([nV 0, sV, sO, nV 0]).toArray) n7 0 HC8.out ((HE.out.below BZ.out).e8.below BW7.out) (TA8.out _ BW7.out) SM8.out
    change Calls _ _ _ _ (fun e w' => e = .returned .nilIface ∧ Below n7.heap.size n7 w') at CV
    have CV := Lib.hid CV
    go_wp2_with ((with_reducible show wpList _ _ _ _ _ _); refine wpList_load_rowG 26 (.tmp 8) rfl g8 rfl 26 ([nV 0, sV, sO, nV 0]).toArray (0, 0) _ (row_below G8R.out BW7.out) Tryd.underlying26 rfl (by kernel_rfl) (by rfl) ?_; go_frame)
    refine CV.out.mono ?_
    rintro e n8 ⟨rfl, hx⟩
    have BW8 := Lib.hid (BW7.out.trans (hx.mono BW7.out.size))
    clear hx CV
    go_wp2_with fail
    go_ret
    exact ⟨rfl, BZ.out.trans (BW8.out.mono BZ.out.size)⟩
end Go.Proofs.YtkabpbclmhmgfaaDoor.Sha
