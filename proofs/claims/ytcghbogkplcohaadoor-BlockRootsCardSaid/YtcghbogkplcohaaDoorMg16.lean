/-
  Texts of this proof joined into one file: BlCloneC, BlCloneW, TxOwnWalk, RtSt, FltSee. What each holds, and under which conditions, its own first sentence tells.
-/
import Derived.Test.YtcghbogkplcohaaDoorMg15
import Derived.Test.YtcghbogkplcohaaDoorMg07
import Derived.Test.YtcghbogkplcohaaDoorMg05
import Derived.Test.YtcghbogkplcohaaDoorMg12
import Derived.Test.YtcghbogkplcohaaDoorMg08
import Derived.Test.YtcghbogkplcohaaDoorMg14
import Derived.Test.YtcghbogkplcohaaDoorMg04
import Derived.Test.YtcghbogkplcohaaDoorMg11
/-
  What stands while a block is cloned. No conditions beyond those that each states.
-/
namespace Go.Proofs.YtcghbogkplcohaaDoor.Sha
open Go Go.RowKit
/-- While a block is cloned: of the row es are clones already, behind them the old elements. -/
structure ClB (g1 gq base n cap : Nat) (hd : THd) (es0 es : List ETx) (w0 W : World) : Prop where
  bel : Below w0.heap.size w0 W
  box : BlBox W g1 hd (.slice (some ⟨gq, 0, none⟩) n cap)
  own : W.ownsRow base 32 4 (.slice (some ⟨gq, 0, none⟩) n cap) n (esL (es ++ es0.drop es.length))
  ok : ∀ e ∈ es, TxOk e.t ∧ e.hi ≤ W.heap.size ∧ Sty (fun k => e.lo ≤ k ∧ k < e.hi) W (PC e)
  apart : es.Pairwise (fun a b => a.hi ≤ b.lo)
  far : ∀ e ∈ es, gq < e.lo ∧ g1 < e.lo
  ne : gq ≠ g1
  wb : w0.heap.size ≤ base
section
variable {g1 gq base n cap : Nat} {hd : THd} {es0 es : List ETx} {e : ETx} {w0 W W' : World}
theorem ClB.at3 (h : ClB g1 gq base n cap hd es0 es w0 W) : base ≤ gq ∧ gq < W.heap.size := ⟨(h.own.lt gq rfl).1, (h.own.lt gq rfl).2⟩
theorem ClB.below (h : ClB g1 gq base n cap hd es0 es w0 W) (hb : Below W.heap.size W W') : ClB g1 gq base n cap hd es0 es w0 W' :=
  ⟨h.bel.trans (hb.mono h.bel.size), h.box.below hb, own_kept h.own hb, fun e he => ⟨(h.ok e he).1, Nat.le_trans (h.ok e he).2.1 hb.size, (h.ok e he).2.2.on (Kps.new hb)⟩, h.apart, h.far, h.ne, h.wb⟩
theorem ClB.put (h : ClB g1 gq base n cap hd es0 es w0 W) (hk : es.length < es0.length) (ok : TxOk e.t) (hi : e.hi ≤ W.heap.size) (st : Sty (fun k => e.lo ≤ k ∧ k < e.hi) W (PC e)) (ha : ∀ a ∈ es, a.hi ≤ e.lo) (hf : gq < e.lo ∧ g1 < e.lo)
    (own : W'.ownsRow base 32 4 (.slice (some ⟨gq, 0, none⟩) n cap) n (esL ((es ++ es0.drop es.length).set es.length e))) (hg : W.grownBy W' (some gq)) : ClB g1 gq base n cap hd es0 (es ++ [e]) w0 W' := by
  have hl : (es ++ es0.drop es.length).set es.length e = (es ++ [e]) ++ es0.drop (es ++ [e]).length := by
    rw [List.set_append_right _ _ (Nat.le_refl _), Nat.sub_self, List.drop_eq_getElem_cons hk, List.set_cons_zero, List.append_assoc, List.length_append]
    rfl
  rw [hl] at own
  have hall : ∀ a ∈ es ++ [e], TxOk a.t ∧ a.hi ≤ W.heap.size ∧ Sty (fun k => a.lo ≤ k ∧ k < a.hi) W (PC a) ∧ gq < a.lo ∧ g1 < a.lo := fun a hm => by
    rcases List.mem_append.1 hm with hm | hm
    · exact ⟨(h.ok a hm).1, (h.ok a hm).2.1, (h.ok a hm).2.2, h.far a hm⟩
    · rw [List.mem_singleton.1 hm]
      exact ⟨ok, hi, st, hf⟩
  refine ⟨h.bel.grown hg h.bel.size (fun k hk => by have h5 : gq = k := Option.some.inj hk; have := h.at3.1; have := h.wb; omega), h.box.far hg (fun e2 => h.ne (Option.some.inj e2)), own, fun a hm => ?_, ?_, fun a hm => (hall a hm).2.2.2, h.ne, h.wb⟩
  · obtain ⟨h1, h2, h3, h4, h5⟩ := hall a hm
    exact ⟨h1, Nat.le_trans h2 hg.size, h3.on (Kps.grown hg fun j _ hj e2 => by have h6 : j = gq := Option.some.inj e2; omega)⟩
  · rw [List.pairwise_append]
    refine ⟨h.apart, List.pairwise_singleton _ _, fun a hm b hb => ?_⟩
    rw [List.mem_singleton.1 hb]
    exact ha a hm
theorem ClB.other {q : Nat} (h : ClB g1 gq base n cap hd es0 es w0 W) (hg : W.grownBy W' (some q)) (h1 : q ≠ g1) (h2 : q ≠ gq) (h3 : w0.heap.size ≤ q) (h4 : ∀ e ∈ es, q < e.lo ∨ e.hi ≤ q) : ClB g1 gq base n cap hd es0 es w0 W' :=
  ⟨h.bel.grown hg h.bel.size (fun k hk => by have h5 : q = k := Option.some.inj hk; omega), h.box.far hg (fun e2 => h1 (Option.some.inj e2)), h.own.kept hg (.inr (fun e2 => h2 (Option.some.inj e2).symm)), fun e he => ⟨(h.ok e he).1, Nat.le_trans (h.ok e he).2.1 hg.size, (h.ok e he).2.2.on (Kps.grown hg fun j _ hj e2 => by have h5 : j = q := Option.some.inj e2; have := h4 e he; omega)⟩, h.apart, h.far, h.ne, h.wb⟩
end
def ClI (n g1 g2 gq base cap : Nat) (hd : THd) (es0 : List ETx) (w0 : World) (vi : Value) (wr : World) : Prop :=
  ∃ (k : Nat) (es : List ETx), k ≤ n ∧ vi = .int .i64 k ∧ es.length = k ∧ es.map (·.t) = (es0.take k).map (·.t) ∧ ClB g1 gq base n cap hd es0 es w0 wr ∧ wr.heap[g2]? = some (.cells Tryd.zeroCells37 37 (0, 0))
end Go.Proofs.YtcghbogkplcohaaDoor.Sha

/-
  Package block clones a block: all transactions in new memory, each of its own. Nothing that was there turns. Condition: a block of at least one, and a few, transactions that lies in memory.
-/
namespace Go.Proofs.YtcghbogkplcohaaDoor.Sha
open Go Go.RowKit
theorem clone_el {t : TTx} {iv ov : Value} {ks : List Value} {base base2 base3 : Nat} {w w' : World} (hb : w.heap.size ≤ base) (h : CloneAt base base2 base3 w' iv ov t ks) :
    ∃ lo hi, lo = w.heap.size ∧ hi = w'.heap.size ∧ Sty (fun k => lo ≤ k ∧ k < hi) w' (PC ⟨t, iv, ov, lo, hi⟩) := ⟨_, _, rfl, rfl, clone_sty h hb⟩
theorem pc_ones {e : ETx} {U : World} (h : PC e U) : ∀ u ∈ e.cells, u.oneCell' = true := by
  have k := tx_one h.at.1 h.at.2
  rw [Array.all_eq_true_iff_forall_mem] at k
  exact fun u hu => k u (by simpa [ETx.cells] using hu)
theorem ClB.mid {g1 gq base n cap : Nat} {hd : THd} {es0 es : List ETx} {e0 : ETx} {w0 W : World} (h : ClB g1 gq base n cap hd es0 es w0 W) (he : es0[es.length]? = some e0) : W.rangeAt gq (es.length * 4) e0.cells := fun j u hj => by
  have hj4 : j < 4 := (List.getElem?_eq_some_iff.1 hj).1
  have hi : (es ++ es0.drop es.length)[es.length]? = some e0 := by rw [List.getElem?_append_right (Nat.le_refl _), Nat.sub_self, List.getElem?_drop, Nat.add_zero]; exact he
  have r := own_range h.own (es.length * 4 + j) u (by rw [esL_get _ _ e0 hi j hj4]; exact hj)
  rwa [Nat.zero_add] at r
def BcPost (x : TBlk) (w : World) (e : Ending) (w' : World) : Prop := ∃ g1 gq base n cap es0 es, e = .returned (.agg (blL x.head (.slice (some ⟨gq, 0, none⟩) n cap)).toArray) ∧ es.map (·.t) = x.txs ∧ n = es.length ∧ ClB g1 gq base n cap x.head es0 es w w'
set_option maxHeartbeats 4000000 in
set_option maxRecDepth 100000 in
theorem blclone_any (x : TBlk) (v : Value) (w : World) (h1 : BlkAt w v x) (hs : BlkSmall x) (h0 : 0 < x.txs.length) : Calls Tryd.prog 9 #[v] w (BcPost x w) := by
  have HH := Lib.hid h1.1
  have TS := Lib.hid hs
  obtain ⟨_, tv, rfl, ht⟩ := h1
  obtain ⟨es0, hes0, hok0, sp, cp, rfl, hr0⟩ := txsAt_es ht
  obtain ⟨n, hn⟩ : ∃ n, n = x.txs.length := ⟨_, rfl⟩
  rw [← hn] at hr0 h0 ⊢
  have L0 : Hid (es0.length = n) := by show _ = _; rw [hn, ← hes0, List.length_map]
  have bn : n ≤ 1000 := by rw [hn]; exact hs.2
  have OK0 := Lib.hid hok0
  have HE0 := Lib.hid hes0
  have HR0 := Lib.hid hr0
  have N0 := Lib.hid h0
  have TA0 : Hid (∀ e ∈ es0, ∀ W, Below w.heap.size w W → TxAt W (.agg e.cells.toArray) e.t) := fun e he W hW => ⟨(hok0 e he).1, e.iv, e.ov, rfl, (hok0 e he).2.1.below hW, (hok0 e he).2.2.below hW⟩
  have TS0 : Hid (∀ e ∈ es0, TxSmall e.t) := fun e he => TS.out.1 e.t (by rw [← HE0.out]; exact List.mem_map_of_mem he)
  have ONE0 : Hid (∀ u ∈ esL es0, u.oneCell' = true) := fun u hu => by
    obtain ⟨e, he, hu⟩ := List.mem_flatMap.1 hu
    have k := tx_one (OK0.out e he).2.1 (OK0.out e he).2.2
    rw [Array.all_eq_true_iff_forall_mem] at k
    exact k u (by simpa [ETx.cells] using hu)
  have CR : Hid (∀ W, Below w.heap.size w W → Calls Tryd.prog 22 #[.slice sp n cp] W fun e w' => ∃ v', e = .returned v' ∧ w'.ownsRow W.heap.size 32 4 v' n (esL es0) ∧ Below W.heap.size W w') := fun W hW => clone_rowT n (esL es0) _ W ⟨sp, cp, rfl, fun h => ⟨(HR0.out h).1, by obtain ⟨b, o, h2, h3⟩ := (HR0.out h).2; exact ⟨b, o, h2, range_below h3 hW⟩⟩⟩ (by rw [esL_length, L0.out]) ONE0.out (by omega)
  have HN := Lib.hid hn
  clear ht hes0 hok0 hr0 hs hn
  go_enter Tryd.func9, Tryd.ntmps9
  go_upto_region 1 with fail
  have f0 := row_below (heap_alloc_new w (.cells (blL x.head (.slice sp n cp)).toArray 37 (0, 0))) ((Below.refl _ _).alloc (Nat.le_refl _) (.cells Tryd.zeroCells37 37))
  have f2 := heap_alloc_new (w.alloc (.cells (blL x.head (.slice sp n cp)).toArray 37 (0, 0))) (.cells Tryd.zeroCells37 37)
  have b0 := ((Below.refl w.heap.size w).alloc (Nat.le_refl _) (.cells (blL x.head (.slice sp n cp)).toArray 37 (0, 0))).alloc (by simp) (.cells Tryd.zeroCells37 37)
  rw [World.size_alloc] at f2
  generalize hw1 : World.alloc (World.alloc w _) _ = w1
  have e1 : (w.alloc (.cells (blL x.head (.slice sp n cp)).toArray 37 (0, 0))).alloc (.cells Tryd.zeroCells37 37) = w1 := hw1
  rw [e1] at f0 f2 b0
  obtain ⟨g1, hg1⟩ : ∃ g, g = w.heap.size := ⟨_, rfl⟩
  obtain ⟨g2, hg2⟩ : ∃ g, g = w.heap.size + 1 := ⟨_, rfl⟩
  rw [← hg1] at f0
  rw [← hg2] at f2
  rw [← hg2, ← hg1]
  have BX : Hid (BlBox w1 g1 x.head (.slice sp n cp)) := ⟨f0⟩
  have F2 := Lib.hid f2
  have B1 := Lib.hid b0
  have G12 : Hid (g1 < g2 ∧ w.heap.size = g1 ∧ g2 < w1.heap.size) := ⟨by omega, hg1.symm, (Array.getElem?_eq_some_iff.1 f2).1⟩
  have c68 := BX.out.txs HH.out
  clear f0 f2 b0 hw1 e1 hg1 hg2
  go_wp2_with fail
  clear c68
  refine (CR.out w1 B1.out).mono ?_
  rintro e w2 ⟨v2, rfl, ho, hb2⟩
  obtain ⟨gq, cap, rfl, hgq, hlt, hcp⟩ := own_blk ho N0.out
  obtain ⟨base, hbase⟩ : ∃ b, b = w1.heap.size := ⟨_, rfl⟩
  rw [← hbase] at ho hgq
  have HO := Lib.hid ho
  have GQ : Hid (gq ≠ g1 ∧ gq ≠ g2) := ⟨by have := G12.out; omega, by have := G12.out; omega⟩
  have WB : Hid (w.heap.size ≤ base) := by rw [hbase]; exact B1.out.size
  have BG : Hid (g2 < base) := by rw [hbase]; exact G12.out.2.2
  have BX := Lib.hid (BX.out.below hb2)
  have F2 := Lib.hid (row_below F2.out hb2)
  have B2 := Lib.hid (B1.out.trans (hb2.mono B1.out.size))
  clear ho hgq hlt hcp hb2 hbase
  go_upto_region 2 with ((with_reducible show wpList _ _ _ _ _ _); refine st_bltxs (g := g1) (h := x.head) (tv := .slice sp n cp) rfl (.tmp 7) (.tmp 6) rfl rfl (.slice (some ⟨gq, 0, none⟩) n cap) rfl rfl HH.out BX.out ?_; intro w3 q1 q2; have ST : Hid (ClB g1 gq base n cap x.head es0 [] w w3) := ⟨B2.out.grown q2 B2.out.size (fun k hk => by have h5 : g1 = k := Option.some.inj hk; have := G12.out; omega), q1, HO.out.kept q2 (.inr (fun e2 => GQ.out.1 (Option.some.inj e2))), fun e he => absurd he (by simp), List.Pairwise.nil, fun e he => absurd he (by simp), GQ.out.1, WB.out⟩; have F2 := Lib.hid (row_far F2.out q2 (fun e2 => by have h5 : g1 = g2 := Option.some.inj e2; have := G12.out; omega)); clear q1 q2; go_frame)
  clear BX HO B2 CR ONE0 HR0
  have c68 := ST.out.box.txs HH.out
  go_wp2_with fail
  clear c68
  go_loopw [11] (fun vi wr => ClI n g1 g2 gq base cap x.head es0 w vi wr) (fun i _ => n - (intOf i).toNat)
  case atStart => exact ⟨0, [], by omega, rfl, rfl, rfl, ST.out, F2.out⟩
  case round =>
    clear ST F2
    obtain ⟨k, es, hk, rfl, hkl, hes, hst, hf2⟩ := hrel
    subst hkl
    have ST := Lib.hid hst
    have F2 := Lib.hid hf2
    have HES := Lib.hid hes
    clear hst hf2 hes
    by_cases hlt : es.length < n
    · obtain ⟨e0, he0⟩ : ∃ e0, es0[es.length]? = some e0 := ⟨_, List.getElem?_eq_getElem (by have := L0.out; omega)⟩
      have GE := Lib.hid he0
      have KN := Lib.hid hlt
      have hm := List.mem_of_getElem? he0
      have TA := Lib.hid (TA0.out e0 hm)
      have TSM := Lib.hid (TS0.out e0 hm)
      have TOK := Lib.hid (OK0.out e0 hm).1
      have p0 : 0 ≤ (es.length : Int) := by omega
      have q0 : (es.length : Int) < (n : Int) := by omega
      clear he0 hm
      go_wp2_with fail
      refine wp_region_held_drew (S := (fun w' => Below w.heap.size w w' ∧ BlBox w' g1 x.head (.slice (some ⟨gq, 0, none⟩) n cap) ∧ w'.heap[g2]? = some (.cells Tryd.zeroCells37 37 (0, 0)))) (by kernel_rfl) (⟨Below.drew ST.out.bel, ST.out.box.below (Below.drew (Below.refl _ _)), row_below F2.out (Below.drew (Below.refl _ _))⟩) (fun hHeld => ?_)
      have ST := Lib.hid (ST.out.below (Below.drew (Below.refl _ _)))
      generalize hwd : wr.drew = wd at ST hHeld ⊢
      clear hwd
      refine held_take (i := 0) (v := (.pointer (some ⟨g1, 68, none⟩))) rfl (by kernel_rfl) (by kernel_rfl) (by kernel_rfl) (fun _ _ _ h => h) (Or.inl ⟨by rfl, fun w' _ => by kernel_rfl⟩) hHeld ?_
      go_frame
      refine held_take (i := 1) (v := (.slice (some ⟨gq, 0, none⟩) n cap)) rfl (by kernel_rfl) (by kernel_rfl) (by kernel_rfl) (fun _ _ _ h => h) (yieldsIf_load_one (by rfl) 35 (.tmp 14) rfl g1 (68) rfl _ _ (fun w' hw' => hw'.2.1.txs HH.out) Tryd.underlying35 rfl) hHeld ?_
      go_frame
      refine held_take (i := 2) (v := (.int .i64 (es.length : Int))) rfl (by kernel_rfl) (by kernel_rfl) (by kernel_rfl) (fun _ _ _ h => h) (Or.inl ⟨by rfl, fun w' _ => by kernel_rfl⟩) hHeld ?_
      go_frame
      refine held_take (i := 3) (v := (.pointer (some ⟨g1, 68, none⟩))) rfl (by kernel_rfl) (by kernel_rfl) (by kernel_rfl) (fun _ _ _ h => h) (Or.inl ⟨by rfl, fun w' _ => by kernel_rfl⟩) hHeld ?_
      go_frame
      refine held_take (i := 4) (v := (.slice (some ⟨gq, 0, none⟩) n cap)) rfl (by kernel_rfl) (by kernel_rfl) (by kernel_rfl) (fun _ _ _ h => h) (yieldsIf_load_one (by rfl) 35 (.tmp 17) rfl g1 (68) rfl _ _ (fun w' hw' => hw'.2.1.txs HH.out) Tryd.underlying35 rfl) hHeld ?_
      go_frame
      refine held_take (i := 5) (v := (.int .i64 (es.length : Int))) rfl (by kernel_rfl) (by kernel_rfl) (by kernel_rfl) (fun _ _ _ h => h) (Or.inl ⟨by rfl, fun w' _ => by kernel_rfl⟩) hHeld ?_
      go_frame
      refine held_take (i := 6) (v := (.pointer (some ⟨gq, es.length * 4, none⟩))) rfl (by kernel_rfl) (by kernel_rfl) (by kernel_rfl) (fun _ _ _ h => h) (Or.inl ⟨by rfl, fun w' _ => by go_simp⟩) hHeld ?_
      go_frame
      refine wpAnyH_ready (rs := [7]) (by kernel_rfl) (by simp) (held_cons rfl (fun K hK => ?_) AllReadyH.nil)
      rw [if_pos (by rfl)]
      have rg := ST.out.mid GE.out
      refine wp_load_mid 32 (.tmp 20) rfl gq (es.length * 4) rfl e0.cells _ rg Tryd.underlying32 rfl (by kernel_rfl) ?_
      clear rg
      go_frame
      refine hK.out _ _ hHeld (fun hHeld => ?_)
      clear hK K
      refine wpAnyH_ready (rs := [8]) (by kernel_rfl) (by simp) (held_cons rfl (fun K hK => ?_) AllReadyH.nil)
      go_simp
      refine (clone_tx e0.t (.agg e0.cells.toArray) _ (TA.out _ hHeld.1) TSM.out).mono ?_
      rintro e v2 ⟨iv, ov, ks, b1, b2, b3, rfl, bb, hb1, hcl⟩
      obtain ⟨lo, hh2, hlo, hhi, st⟩ := clone_el hb1 hcl
      have EP := Lib.hid st
      have GL : Hid (gq < lo ∧ g1 < lo ∧ ∀ a ∈ es, a.hi ≤ lo) := Lib.hid (by rw [hlo]; exact ⟨ST.out.at3.2, ST.out.box.lt, fun a ha => (ST.out.ok a ha).2.1⟩)
      have HI := Lib.hid (Nat.le_of_eq hhi)
      clear st hlo hhi hb1 hcl
      have ST := Lib.hid (ST.out.below bb)
      have hv2 := (show _ ∧ _ ∧ _ from ⟨hHeld.1.trans (bb.mono hHeld.1.size), hHeld.2.1.below bb, row_below hHeld.2.2 bb⟩)
      clear bb hHeld
      go_wp2_with fail
      refine hK.out _ _ hv2 (fun hHeld => ?_)
      clear hK K hv2
      refine held_take (i := 9) (v := (.pointer (some ⟨gq, es.length * 4, none⟩))) rfl (by kernel_rfl) (by kernel_rfl) (by kernel_rfl) (fun _ _ _ h => h) (Or.inl ⟨by rfl, fun w' _ => by go_simp⟩) hHeld ?_
      go_frame
      refine wpAnyH_ready (rs := [10]) (by kernel_rfl) (by simp) (held_cons rfl (fun K hK => ?_) AllReadyH.nil)
      rw [if_pos (by rfl)]
      refine wp_store_el2 32 (.tmp 23) (.tmp 22) rfl gq es.length base n cap 32 (es ++ es0.drop es.length) ⟨e0.t, iv, ov, lo, hh2⟩ rfl rfl (pc_ones EP.out.now) (by kernel_rfl) ST.out.own (by have := L0.out; have := KN.out; rw [List.length_append, List.length_drop]; omega) KN.out ?_
      intro v3 q1 q2
      have XT := Lib.hid (ST.out.put (e := ⟨e0.t, iv, ov, lo, hh2⟩) (by have := L0.out; have := KN.out; omega) TOK.out HI.out EP.out GL.out.2.2 ⟨GL.out.1, GL.out.2.1⟩ q1 q2)
      have hS : Below w.heap.size w v3 ∧ BlBox v3 g1 x.head (.slice (some ⟨gq, 0, none⟩) n cap) ∧ v3.heap[g2]? = some (.cells Tryd.zeroCells37 37 (0, 0)) := ⟨XT.out.bel, XT.out.box, row_far hHeld.2.2 q2 (fun e2 => GQ.out.2 (Option.some.inj e2))⟩
      clear q1 q2 hHeld
      go_frame
      refine hK.out _ _ hS (fun hHeld => ?_)
      clear hK K hS
      refine wpAnyH_done (by kernel_rfl) ?_ _
      have FZ := Lib.hid hHeld.2.2
      clear hHeld
      go_wp2_with fail
      go_roundw
      case rel =>
        refine ⟨es.length + 1, es ++ [⟨e0.t, iv, ov, lo, hh2⟩], KN.out, by go_num, by simp, ?_, XT.out, FZ.out⟩
        rw [List.map_append, HES.out, List.take_add_one, GE.out, List.map_append]
        rfl
      case measure => have := KN.out; simp [intOf]; omega
    · have hge : ¬ (es.length : Int) < (n : Int) := by omega
      have hkn : es.length = n := by omega
      have DN : Hid (es.map (·.t) = x.txs) := by show _ = _; rw [HES.out, hkn, ← L0.out, List.take_length]; exact HE0.out
      have KN := Lib.hid hkn
      obtain ⟨cs, hcs⟩ : ∃ cs, cs = blL x.head (.slice (some ⟨gq, 0, none⟩) n cap) := ⟨_, rfl⟩
      have LCS' : Hid (cs.toArray.size = 69) := by show _ = _; rw [hcs]; exact blL_size HH.out _
      have ON : Hid (cs.toArray.all (·.oneCell') = true) := by show _ = _; rw [hcs]; exact blL_one rfl
      have FR : Hid (wr.heap[g1]? = some (.cells cs.toArray 37 (0, 0))) := by show _ = _; rw [hcs]; exact ST.out.box.row
      have CS := Lib.hid hcs
      clear hkn hcs
      go_wp2_with ((with_reducible show wpList _ _ _ _ _ _); first | (refine wpList_load_row rfl 37 (.tmp 1) rfl g1 rfl 37 cs.toArray (0, 0) _ FR.out Tryd.underlying37 rfl (by rw [LCS'.out]; kernel_rfl) ?_; go_frame) | (refine wpList_store_row rfl 37 (.tmp 2) (.tmp 25) rfl g2 cs.toArray rfl rfl 37 _ F2.out (by rw [LCS'.out]; kernel_rfl) (by rw [LCS'.out]; rfl) ON.out ?_; go_frame))
      refine bodyPost_ret (results_cell_row rfl _ _ g2 37 cs.toArray (0, 0) _ rfl (setRow_heap _ _ _ _ _ _ F2.out) Tryd.underlying37 rfl (by rw [LCS'.out]; kernel_rfl)) rfl ?_
      have hq := setRow_grown (w := wr) (g := g2) cs.toArray
      exact ⟨g1, gq, base, n, cap, es0, es, by rw [CS.out], DN.out, KN.out.symm, ST.out.other hq (by have := G12.out; omega) (fun e2 => GQ.out.2 e2.symm) (by have := G12.out; omega) (fun e he => .inl (by have := (ST.out.far e he).1; have := ST.out.at3.1; have := BG.out; omega))⟩
end Go.Proofs.YtcghbogkplcohaaDoor.Sha

/-
  The statement on a copy of one's own answers true: what is done to the one copy stands in no other, nor in the first. Condition: the transaction lies in memory.
-/
namespace Go.Proofs.YtcghbogkplcohaaDoor.Sha
open Go Go.RowKit
theorem wrap_u32_1 (n : Nat) : IntKind.u32.wrap ((n : Int) + 1) = (((n + 1) % 4294967296 : Nat) : Int) := by
  rw [IntKind.wrap_u32']
  omega
theorem wrap_u64_1 (n : Nat) : IntKind.u64.wrap ((n : Int) + 1) = (((n + 1) % 18446744073709551616 : Nat) : Int) := by
  rw [IntKind.wrap_u64]
  omega
theorem wrap_u8_1 (x : UInt8) : IntKind.u8.wrap (bv x + 1) = bv (UInt8.ofNat (x.toNat + 1)) := by
  rw [← bv_of]
  congr 1
theorem wpList_store_own {P : Program} {ops : Array Oper} {rest : List Oper} {op : Oper} {a : Act} {w : World} {Q : Exit → Act → World → Prop} (hgd : op.guard = none) (ty : TypeId) (x y : Operand) (ho : op.op = .store ty x y)
    (g j base size n cap : Nat) (e : TypeId) (xs : List Value) (v : Value) (hx : a.eval x = .pointer (some ⟨g, j, none⟩)) (hy : a.eval y = v) (h1 : v.oneCell' = true) (hi : (P.info? ty).map (·.size) = some 1)
    (hown : w.ownsRow base e size (.slice (some ⟨g, 0, none⟩) n cap) n xs) (hj : j < n * size)
    (h : ∀ w', w'.ownsRow base e size (.slice (some ⟨g, 0, none⟩) n cap) n (xs.set j v) → w.grownBy w' (some g) → wpList P ops Q rest (a.put op.dst undef) w') : wpList P ops Q (op :: rest) a w :=
  wpList_plain hgd fun _ hK => wp_store_own ty x y ho g j base size n cap e xs v hx hy h1 hi hown hj (fun w' a1 a2 => hK _ _ (h w' a1 a2))
theorem own_shape0 {w : World} {base size n : Nat} {e : TypeId} {v : Value} {xs : List Value} (h : w.ownsRow base e size v n xs) (hn : 0 < n) : ∃ g cap, v = .slice (some ⟨g, 0, none⟩) n cap ∧ v.ownBlock = some g := by
  rcases h.2 with ⟨_, h0⟩ | ⟨g, cap, _, e, _⟩
  · omega
  · exact ⟨g, cap, e, by rw [e]; rfl⟩
theorem tx_ones (t : TTx) {iv ov : Value} (h1 : iv.oneCell' = true) (h2 : ov.oneCell' = true) : (txL t iv ov).toArray.all (·.oneCell') = true := by
  rw [Array.all_eq_true_iff_forall_mem]
  intro u hu
  simp only [txL, List.mem_toArray, List.mem_cons, List.not_mem_nil, or_false] at hu
  rcases hu with rfl | rfl | rfl | rfl
  · rfl
  · exact h1
  · exact h2
  · rfl
/-- A copy's parts, of which the first input, the first output and the first key may be written. -/
structure CSt (base base2 base3 : Nat) (w : World) (iv ov kv0 : Value) (x0 : TIn) (xs : List TIn) (y0 : TOut) (ys : List TOut) (ks : List Value) : Prop where
  ins : InsOwn base w iv (x0 :: xs) (kv0 :: ks)
  outs : OutsOwn base3 w ov (y0 :: ys)
  low : InsLow base3 iv (kv0 :: ks)
  key : 0 < x0.key.length → w.ownsRow base2 5 1 kv0 x0.key.length (x0.key.map bV)
  lo : ∀ g, iv.ownBlock = some g → g < base2
  ap : ∀ (i : Nat) kv, ks[i]? = some kv → ∀ g, kv0.ownBlock = some g → Off kv (some g)
theorem CSt.of {base base2 base3 : Nat} {w : World} {iv ov kv0 : Value} {t : TTx} {x0 : TIn} {xs : List TIn} {y0 : TOut} {ys : List TOut} {ks : List Value} (h : CloneAt base base2 base3 w iv ov t (kv0 :: ks)) (hi : t.ins = x0 :: xs) (ho : t.outs = y0 :: ys) : CSt base base2 base3 w iv ov kv0 x0 xs y0 ys ks := by
  have h1 := h.1
  rw [hi] at h1
  have h2 := h.2.1
  rw [ho] at h2
  exact ⟨h1.own, h2, h.2.2.2, fun _ => h1.2.2.2.2.2.1 0 x0 kv0 rfl rfl, h1.2.2.2.2.1, fun i kv hk => h1.2.2.2.2.2.2 0 (i + 1) kv0 kv (by omega) rfl hk⟩
section
variable {base base2 base3 : Nat} {w w' : World} {iv ov kv0 : Value} {x0 : TIn} {xs : List TIn} {y0 : TOut} {ys : List TOut} {ks : List Value}
theorem CSt.keep (h : CSt base base2 base3 w iv ov kv0 x0 xs y0 ys ks) (hb : Below w.heap.size w w') : CSt base base2 base3 w' iv ov kv0 x0 xs y0 ys ks :=
  ⟨h.ins.keep hb, h.outs.keep hb, h.low, fun h0 => own_kept (h.key h0) hb, h.lo, h.ap⟩
theorem CSt.keyCell (h : CSt base base2 base3 w iv ov kv0 x0 xs y0 ys ks) {g cap : Nat} (hv : iv = .slice (some ⟨g, 0, none⟩) (xs.length + 1) cap) : w.cell? ⟨g, 33, none⟩ = some kv0 := by
  have h1 := h.ins.2.1
  have e := (h.ins.2.2.1 x0 List.mem_cons_self).1
  rw [hv] at h1
  have h2 := h1.cellAt 33 (by omega)
  rw [h2, show (33 : Nat) = 0 * 35 + 33 by omega, insL_get (x0 :: xs) (kv0 :: ks) 0 x0 kv0 h.ins.2.2.1 rfl rfl 33 (by omega), inL, List.getElem?_append_right (by simp [ptL, e])]
  simp [ptL, e]
theorem CSt.seqCell (h : CSt base base2 base3 w iv ov kv0 x0 xs y0 ys ks) {g cap : Nat} (hv : iv = .slice (some ⟨g, 0, none⟩) (xs.length + 1) cap) : w.cell? ⟨g, 34, none⟩ = some (nV x0.seq) := by
  have h1 := h.ins.2.1
  have e := (h.ins.2.2.1 x0 List.mem_cons_self).1
  rw [hv] at h1
  have h2 := h1.cellAt 34 (by omega)
  rw [h2, show (34 : Nat) = 0 * 35 + 34 by omega, insL_get (x0 :: xs) (kv0 :: ks) 0 x0 kv0 h.ins.2.2.1 rfl rfl 34 (by omega), inL, List.getElem?_append_right (by simp [ptL, e])]
  simp [ptL, e]
theorem CSt.valCell (h : CSt base base2 base3 w iv ov kv0 x0 xs y0 ys ks) {g cap : Nat} (hv : ov = .slice (some ⟨g, 0, none⟩) (ys.length + 1) cap) : w.cell? ⟨g, 0, none⟩ = some (uV y0.val) := by
  have h1 := h.outs.1
  rw [hv] at h1
  have h2 := h1.cellAt 0 (by omega)
  rw [h2]
  rfl
theorem CSt.byteCell {b : UInt8} {bs : List UInt8} {g cap : Nat} (h : CSt base base2 base3 w iv ov (.slice (some ⟨g, 0, none⟩) (bs.length + 1) cap) x0 xs y0 ys ks) (hk : x0.key = b :: bs) : w.cell? ⟨g, 0, none⟩ = some (bV b) := by
  have h1 := h.key (by rw [hk]; simp)
  rw [hk] at h1
  have h2 := h1.cellAt 0 (by simp)
  rw [h2]
  rfl
/-- The first input's sequence is written. -/
theorem CSt.seq (h : CSt base base2 base3 w iv ov kv0 x0 xs y0 ys ks) {g s : Nat} (hv : iv.ownBlock = some g) (hs : s ≤ 4294967295) (h1 : w'.ownsRow base 42 35 iv (xs.length + 1) ((insL (x0 :: xs) (kv0 :: ks)).set 34 (nV s))) (hg : w.grownBy w' (some g)) :
    CSt base base2 base3 w' iv ov kv0 ⟨x0.h, x0.n, x0.key, s⟩ xs y0 ys ks := by
  have e := h.ins.2.2.1 x0 List.mem_cons_self
  have gl : g < base3 := by
    rcases Nat.lt_or_ge g base3 with h2 | h2
    · exact h2
    · exact absurd hv (h.low g h2).1
  refine ⟨⟨h.ins.1, ?_, ?_, fun i x kv hx hk => ?_⟩, h.outs.other hg gl, h.low, fun h0 => (h.key h0).kept hg (own_far (h.key h0) (h.lo g hv)), h.lo, h.ap⟩
  · have e2 : (insL (x0 :: xs) (kv0 :: ks)).set 34 (nV s) = insL (⟨x0.h, x0.n, x0.key, s⟩ :: xs) (kv0 :: ks) := by
      rw [insL, insL, List.set_append_left _ _ (by rw [inL_length x0 kv0 e.1]; omega)]
      congr 1
      rw [inL, inL, List.set_append_right _ _ (by simp [ptL, e.1])]
      simp [ptL, e.1]
    rw [e2] at h1
    exact h1
  · intro z hz
    rcases List.mem_cons.1 hz with rfl | hz
    · exact ⟨e.1, e.2.1, hs⟩
    · exact h.ins.2.2.1 z (List.mem_cons_of_mem _ hz)
  · cases i with
    | zero =>
      cases hx
      have h3 := h.ins.2.2.2 0 x0 kv rfl hk
      exact ⟨h3.1.off (by rw [← hv]; exact h3.2.2) hg, h3.2⟩
    | succ i =>
      have h3 := h.ins.2.2.2 (i + 1) x kv hx hk
      exact ⟨h3.1.off (by rw [← hv]; exact h3.2.2) hg, h3.2⟩
/-- The first output's value is written. -/
theorem CSt.val (h : CSt base base2 base3 w iv ov kv0 x0 xs y0 ys ks) {g s : Nat} (hv : ov.ownBlock = some g) (hs : s ≤ 18446744073709551615) (h1 : w'.ownsRow base3 44 33 ov (ys.length + 1) ((outsL (y0 :: ys)).set 0 (uV s))) (hg : w.grownBy w' (some g)) :
    CSt base base2 base3 w' iv ov kv0 x0 xs ⟨s, y0.lock⟩ ys ks := by
  have e := h.outs.2 y0 List.mem_cons_self
  have gl := (h.outs.1.lt g hv).1
  have lw := h.low g gl
  refine ⟨⟨h.ins.1, h.ins.2.1.kept hg (.inr lw.1), h.ins.2.2.1, fun i x kv hx hk => ⟨(h.ins.2.2.2 i x kv hx hk).1.off (lw.2 i kv hk) hg, (h.ins.2.2.2 i x kv hx hk).2⟩⟩, ⟨h1, ?_⟩, h.low, fun h0 => (h.key h0).kept hg ?_, h.lo, h.ap⟩
  · intro z hz
    rcases List.mem_cons.1 hz with rfl | hz
    · exact ⟨e.1, hs⟩
    · exact h.outs.2 z (List.mem_cons_of_mem _ hz)
  · obtain ⟨gk, ck, e1, e2⟩ := own_shape0 (h.key h0) h0
    refine .inr (fun e3 => ?_)
    have e4 := lw.2 0 kv0 rfl ⟨gk, 0, none⟩ _ ck e1 h0
    rw [e2] at e3
    exact e4 e3.symm
/-- The first key's first byte is written. -/
theorem CSt.byte {b : UInt8} {bs : List UInt8} {g cap : Nat} (h : CSt base base2 base3 w iv ov (.slice (some ⟨g, 0, none⟩) (bs.length + 1) cap) x0 xs y0 ys ks) (hk : x0.key = b :: bs) (c : UInt8)
    (h1 : w'.ownsRow base2 5 1 (.slice (some ⟨g, 0, none⟩) (bs.length + 1) cap) (bs.length + 1) ((bV b :: bs.map bV).set 0 (bV c))) (hg : w.grownBy w' (some g)) :
    CSt base base2 base3 w' iv ov (.slice (some ⟨g, 0, none⟩) (bs.length + 1) cap) ⟨x0.h, x0.n, c :: bs, x0.seq⟩ xs y0 ys ks := by
  have e := h.ins.2.2.1 x0 List.mem_cons_self
  have g2 := (h1.lt g rfl).1
  have gl : g < base3 := by
    rcases Nat.lt_or_ge g base3 with h2 | h2
    · exact h2
    · exact absurd rfl ((h.low g h2).2 0 _ rfl ⟨g, 0, none⟩ _ cap rfl (by omega))
  refine ⟨⟨h.ins.1, h.ins.2.1.kept hg ?_, ?_, fun i x kv hx hkv => ?_⟩, h.outs.other hg gl, h.low, fun _ => h1, h.lo, h.ap⟩
  · cases hb : iv.ownBlock with
    | none => exact .inl rfl
    | some q => exact .inr (fun e3 => by have := h.lo q hb; have := Option.some.inj e3; omega)
  · intro z hz
    rcases List.mem_cons.1 hz with rfl | hz
    · exact e
    · exact h.ins.2.2.1 z (List.mem_cons_of_mem _ hz)
  · cases i with
    | zero =>
      cases hx
      cases hkv
      have h3 := h.ins.2.2.2 0 x0 _ rfl rfl
      have h4 : w'.ownsRow base2 5 1 (.slice (some ⟨g, 0, none⟩) (bs.length + 1) cap) (c :: bs).length ((c :: bs).map bV) := h1
      exact ⟨⟨src_own h4, some ⟨g, 0, none⟩, cap, rfl⟩, h3.2⟩
    | succ i =>
      have h3 := h.ins.2.2.2 (i + 1) x kv hx hkv
      exact ⟨h3.1.off (h.ap i kv hkv g rfl) hg, h3.2⟩
end
/-- The three transactions' boxes and what lies behind them. -/
structure OSt (W w : World) (g4 g5 : Nat) (t : TTx) (iv ov ivc ovc kv0 ivd ovd : Value) (bc bc2 bc3 bd : Nat) (x0 : TIn) (xs : List TIn) (y0 : TOut) (ys : List TOut) (ks ksd : List Value) : Prop where
  b : Below W.heap.size W w
  f1 : w.heap[W.heap.size]? = some (.cells (txL t iv ov).toArray 32 (0, 0))
  f4 : w.heap[g4]? = some (.cells (txL t ivc ovc).toArray 32 (0, 0))
  f5 : w.heap[g5]? = some (.cells (txL t ivd ovd).toArray 32 (0, 0))
  c : CSt bc bc2 bc3 w ivc ovc kv0 x0 xs y0 ys ks
  di : InsOwn bd w ivd t.ins ksd
  dou : OutsOwn bd w ovd t.outs
  s1 : W.heap.size < bc
  s2 : g4 < g5
  s3 : g4 ≤ bd
  s4 : bc ≤ bc2 ∧ bc ≤ bc3
  l1 : ∀ q, ivc.ownBlock = some q → q < g4
  l2 : ∀ q, ovc.ownBlock = some q → q < g4
  l3 : ∀ q, 0 < x0.key.length → kv0.ownBlock = some q → q < g4
section
variable {W w w' : World} {g4 g5 : Nat} {t : TTx} {iv ov ivc ovc kv0 ivd ovd : Value} {bc bc2 bc3 bd : Nat} {x0 x1 : TIn} {xs : List TIn} {y0 y1 : TOut} {ys : List TOut} {ks ksd : List Value}
theorem OSt.keep (h : OSt W w g4 g5 t iv ov ivc ovc kv0 ivd ovd bc bc2 bc3 bd x0 xs y0 ys ks ksd) (hb : Below w.heap.size w w') : OSt W w' g4 g5 t iv ov ivc ovc kv0 ivd ovd bc bc2 bc3 bd x0 xs y0 ys ks ksd :=
  ⟨h.b.trans (hb.mono h.b.size), row_below h.f1 hb, row_below h.f4 hb, row_below h.f5 hb, h.c.keep hb, h.di.keep hb, h.dou.keep hb, h.s1, h.s2, h.s3, h.s4, h.l1, h.l2, h.l3⟩
theorem OSt.step (h : OSt W w g4 g5 t iv ov ivc ovc kv0 ivd ovd bc bc2 bc3 bd x0 xs y0 ys ks ksd) {q : Nat} (hg : w.grownBy w' (some q)) (h1 : bc ≤ q) (h2 : q < g4) (hc : CSt bc bc2 bc3 w' ivc ovc kv0 x1 xs y1 ys ks) (hl : x1.key.length = x0.key.length) :
    OSt W w' g4 g5 t iv ov ivc ovc kv0 ivd ovd bc bc2 bc3 bd x1 xs y1 ys ks ksd :=
  ⟨h.b.grown hg h.b.size (fun k hk => by cases hk; have := h.s1; omega), row_far h.f1 hg (fun e => by have := h.s1; have := Option.some.inj e; omega), row_far h.f4 hg (fun e => by have := Option.some.inj e; omega),
    row_far h.f5 hg (fun e => by have := h.s2; have := Option.some.inj e; omega), hc, h.di.other hg (by have := h.s3; omega), h.dou.other hg (by have := h.s3; omega), h.s1, h.s2, h.s3, h.s4, h.l1, h.l2, fun k h0 => h.l3 k (by omega)⟩
end
end Go.Proofs.YtcghbogkplcohaaDoor.Sha

/-
  What stands while the statement on roots makes a block, clones it and changes the clone. No conditions beyond those that each states.
-/
namespace Go.Proofs.YtcghbogkplcohaaDoor.Sha
open Go Go.RowKit
theorem rt_el {W : World} {l : List UInt8} {gi go k : Nat} (hl : l.length = 32) (hi : W.heap[gi]? = some (.cells (inL (rtX l k) (.slice none 0 0)).toArray 42 (0, 0))) (ho : W.heap[go]? = some (.cells (outL ⟨k, zH⟩).toArray 44 (0, 0))) (hlt : gi < go) (hk : k ≤ 1000) :
    Sty (fun j => gi ≤ j ∧ j < go + 1) W (PK ⟨rtT l k k k, (.slice (some ⟨gi, 0, none⟩) 1 1), (.slice (some ⟨go, 0, none⟩) 1 1), gi, go + 1⟩) := fun U hU => by
  have r1 := row_kps hi hU ⟨Nat.le_refl _, by omega⟩
  have r2 := row_kps ho hU ⟨by omega, by omega⟩
  exact ⟨⟨insAt_one r1 ⟨hl, by show k ≤ _; omega, by show 0 ≤ _; omega⟩ (nil_key _), outsAt_one r2 ⟨rfl, by show k ≤ _; omega⟩⟩, fun _ => ⟨gi, go, rtX l k, ⟨k, zH⟩, rfl, rfl, rfl, rfl, ⟨rfl, by show k ≤ _; omega⟩, r1, r2, Nat.le_refl _, hlt, by show go < go + 1; omega⟩⟩
theorem rt_ones (l : List UInt8) (k gi go : Nat) : ∀ u ∈ txL (rtT l k k k) (.slice (some ⟨gi, 0, none⟩) 1 1) (.slice (some ⟨go, 0, none⟩) 1 1), u.oneCell' = true := by
  intro u hu
  simp only [txL, List.mem_cons, List.not_mem_nil, or_false] at hu
  rcases hu with rfl | rfl | rfl | rfl <;> rfl
theorem rtX_one (l : List UInt8) (k : Nat) : ∀ u ∈ inL (rtX l k) (.slice none 0 0), u.oneCell' = true := fun u hu => by
  simp only [inL, ptL, List.mem_append, List.mem_cons, List.not_mem_nil, or_false] at hu
  rcases hu with (hu | rfl) | rfl | rfl
  · exact bV_one' _ u hu
  all_goals rfl
def RtInv (n base g8 : Nat) (l : List UInt8) (hd : THd) (w0 : World) (vi : Value) (wr : World) : Prop :=
  ∃ (k : Nat) (es : List ETx) (v : Value), k ≤ n ∧ 1 ≤ k ∧ vi = .int .i64 k ∧ es.map (·.t) = rtL l (rtXs k) ∧ KdB base g8 hd v v es w0 wr
/-- What holds of a block alone, whatever else turns, is that block's. -/
theorem sty_in {F : Nat → Prop} {W : World} {P : World → Prop} {g : Nat} {cs : Array Value} {T : TypeId} {fr : Nat × Nat} (h : Sty F W P) (hg : W.heap[g]? = some (.cells cs T fr)) (bad : ∀ W', W'.heap[g]? = some (.cells #[] T fr) → ¬ P W') : F g :=
  Classical.byContradiction fun hF => bad _ (setRow_heap W g cs #[] T fr hg) (h _ (Kps.grown (setRow_grown _) fun k _ hk e => by
    have : k = g := Option.some.inj e
    exact hF (this ▸ hk)))
theorem own_empty {w : World} {base size n g cap : Nat} {e T : TypeId} {xs : List Value} {fr : Nat × Nat} (h : w.ownsRow base e size (.slice (some ⟨g, 0, none⟩) n cap) n xs) (hn : 0 < n) (hs : 0 < size) (hr : w.heap[g]? = some (.cells #[] T fr)) : False := by
  rcases h.2 with ⟨h1, _⟩ | ⟨g', cap', cur, h1, _, hg, hc, _, hcs, _⟩
  · cases h1
  · cases h1
    rw [hr] at hg
    cases hg
    simp only [Array.size_empty] at hcs
    have : 0 < cap * size := Nat.mul_pos (by omega) hs
    omega
theorem CSt.num {w w' : World} {base base2 base3 : Nat} {iv ov kv0 : Value} {x0 : TIn} {xs : List TIn} {y0 : TOut} {ys : List TOut} {ks : List Value} (h : CSt base base2 base3 w iv ov kv0 x0 xs y0 ys ks) {g s : Nat} (hv : iv.ownBlock = some g) (hs : s ≤ 4294967295) (h1 : w'.ownsRow base 42 35 iv (xs.length + 1) ((insL (x0 :: xs) (kv0 :: ks)).set 32 (nV s))) (hg : w.grownBy w' (some g)) :
    CSt base base2 base3 w' iv ov kv0 ⟨x0.h, s, x0.key, x0.seq⟩ xs y0 ys ks := by
  have e := h.ins.2.2.1 x0 List.mem_cons_self
  have gl : g < base3 := by
    rcases Nat.lt_or_ge g base3 with h2 | h2
    · exact h2
    · exact absurd hv (h.low g h2).1
  refine ⟨⟨h.ins.1, ?_, ?_, fun i x kv hx hk => ?_⟩, h.outs.other hg gl, h.low, fun h0 => (h.key h0).kept hg (own_far (h.key h0) (h.lo g hv)), h.lo, h.ap⟩
  · have e2 : (insL (x0 :: xs) (kv0 :: ks)).set 32 (nV s) = insL (⟨x0.h, s, x0.key, x0.seq⟩ :: xs) (kv0 :: ks) := by
      rw [insL, insL, List.set_append_left _ _ (by rw [inL_length x0 kv0 e.1]; omega)]
      congr 1
      rw [inL, inL, List.set_append_left _ _ (by simp [ptL, e.1])]
      congr 1
      rw [ptL, ptL, List.set_append_right _ _ (by simp [e.1])]
      simp [e.1]
    rw [e2] at h1
    exact h1
  · intro z hz
    rcases List.mem_cons.1 hz with rfl | hz
    · exact ⟨e.1, hs, e.2.2⟩
    · exact h.ins.2.2.1 z (List.mem_cons_of_mem _ hz)
  · cases i with
    | zero =>
      cases hx
      have h3 := h.ins.2.2.2 0 x0 kv rfl hk
      exact ⟨h3.1.off (by rw [← hv]; exact h3.2.2) hg, h3.2⟩
    | succ i =>
      have h3 := h.ins.2.2.2 (i + 1) x kv hx hk
      exact ⟨h3.1.off (by rw [← hv]; exact h3.2.2) hg, h3.2⟩
theorem esL_take : ∀ (es : List ETx) (a : Nat), (esL es).take (a * 4) = esL (es.take a)
  | [], a => by simp [esL]
  | e :: es, 0 => by simp [esL]
  | e :: es, a + 1 => by
    have ih := esL_take es a
    have hl : e.cells.length = 4 := rfl
    show (e.cells ++ esL es).take ((a + 1) * 4) = e.cells ++ esL (es.take a)
    rw [← ih, show (a + 1) * 4 = e.cells.length + a * 4 by omega, List.take_append, List.take_of_length_le (by omega), Nat.add_sub_cancel_left]
/-- The clone: its box, its row, each element in blocks of its own. -/
structure RtC (gc gq n cap base : Nat) (hd : THd) (es : List ETx) (w0 W : World) : Prop where
  bel : Below w0.heap.size w0 W
  box : BlBox W gc hd (.slice (some ⟨gq, 0, none⟩) n cap)
  own : W.ownsRow base 32 4 (.slice (some ⟨gq, 0, none⟩) n cap) n (esL es)
  ok : ∀ e ∈ es, TxOk e.t ∧ w0.heap.size ≤ e.lo ∧ gq < e.lo ∧ e.hi ≤ gc ∧ Sty (fun k => e.lo ≤ k ∧ k < e.hi) W (PC e)
  apart : es.Pairwise (fun a b => a.hi ≤ b.lo)
  len : es.length = n
  ne : gq ≠ gc
  g0 : w0.heap.size ≤ gq ∧ w0.heap.size ≤ gc ∧ base ≤ gq
def RtZ (gc : Nat) (hd : THd) (ts : List TTx) (w0 W : World) : Prop := Below w0.heap.size w0 W ∧ ∃ v, BlBox W gc hd v ∧ TxsAt W v ts
section
variable {g1 gc gq n cap base a g : Nat} {hd : THd} {es0 es : List ETx} {e e' : ETx} {w0 W W' W1 W2 : World}
theorem RtC.of (h : ClB g1 gq base n cap hd es0 es w0 W) (hn : n = es.length) (hb : Below W.heap.size W W') (hbox : BlBox W' gc hd (.slice (some ⟨gq, 0, none⟩) n cap)) (hgc : W.heap.size ≤ gc) : RtC gc gq n cap base hd es w0 W' := by
  have hl := h.own.1
  rw [esL_length, List.length_append] at hl
  have hd0 : es0.drop es.length = [] := List.eq_nil_of_length_eq_zero (by omega)
  have own := h.own
  rw [hd0, List.append_nil] at own
  have h3 := h.at3
  have h4 := h.wb
  refine ⟨h.bel.trans (hb.mono h.bel.size), hbox, own_kept own hb, fun e he => ⟨(h.ok e he).1, ?_, (h.far e he).1, Nat.le_trans (h.ok e he).2.1 hgc, (h.ok e he).2.2.on (Kps.new hb)⟩, h.apart, hn.symm, by omega, by omega, ?_, h3.1⟩
  · have := (h.far e he).1
    omega
  · have := h.bel.size
    omega
theorem RtC.below (h : RtC gc gq n cap base hd es w0 W) (hb : Below W.heap.size W W') : RtC gc gq n cap base hd es w0 W' :=
  ⟨h.bel.trans (hb.mono h.bel.size), h.box.below hb, own_kept h.own hb, fun e he => ⟨(h.ok e he).1, (h.ok e he).2.1, (h.ok e he).2.2.1, (h.ok e he).2.2.2.1, (h.ok e he).2.2.2.2.on (Kps.new hb)⟩, h.apart, h.len, h.ne, h.g0⟩
theorem RtC.txs (h : RtC gc gq n cap base hd es w0 W) : TxsAt W (.slice (some ⟨gq, 0, none⟩) n cap) (es.map (·.t)) :=
  TxsAt.of_own (by rw [h.len]; exact h.own) fun e he => ⟨(h.ok e he).1, (h.ok e he).2.2.2.2.now.at⟩
theorem RtC.cell (h : RtC gc gq n cap base hd es w0 W) (he : es[a]? = some e) {j : Nat} (hj : j < 4) : W.cell? ⟨gq, a * 4 + j, none⟩ = e.cells[j]? := by
  have hl : a < es.length := (List.getElem?_eq_some_iff.1 he).1
  have := h.len
  rw [h.own.cellAt (a * 4 + j) (by omega), esL_get es a e he j hj]
/-- Two elements lie apart. -/
theorem RtC.two (h : RtC gc gq n cap base hd es w0 W) {i j : Nat} {x y : ETx} (hx : es[i]? = some x) (hy : es[j]? = some y) (hij : i ≠ j) : x.hi ≤ y.lo ∨ y.hi ≤ x.lo := by
  obtain ⟨h1, h2⟩ := List.getElem?_eq_some_iff.1 hx
  obtain ⟨h3, h4⟩ := List.getElem?_eq_some_iff.1 hy
  have ap := List.pairwise_iff_getElem.1 h.apart
  rcases Nat.lt_or_gt_of_ne hij with hlt | hlt
  · have := ap i j h1 h3 hlt
    rw [h2, h4] at this
    exact .inl this
  · have := ap j i h3 h1 hlt
    rw [h2, h4] at this
    exact .inr this
theorem RtC.far (h : RtC gc gq n cap base hd es w0 W) (he : es[a]? = some e) (hin : e.lo ≤ g ∧ g < e.hi) : g ≠ gq ∧ g ≠ gc ∧ w0.heap.size ≤ g := by
  have := h.ok e (List.mem_of_getElem? he)
  omega
theorem mem_set_or {α : Type} {l : List α} {i : Nat} {x y : α} (h : y ∈ l.set i x) : y = x ∨ ∃ j, j ≠ i ∧ l[j]? = some y := by
  obtain ⟨j, hj⟩ := List.getElem?_of_mem h
  by_cases hji : j = i
  · subst hji
    have hl := (List.getElem?_eq_some_iff.1 hj).1
    rw [List.length_set] at hl
    rw [List.getElem?_set_self hl] at hj
    exact .inl (Option.some.inj hj).symm
  · rw [List.getElem?_set_ne (fun e => hji e.symm)] at hj
    exact .inr ⟨j, hji, hj⟩
/-- A block of one element is written. -/
theorem RtC.mid (h : RtC gc gq n cap base hd es w0 W) (he : es[a]? = some e) (hg : W.grownBy W1 (some g)) (hin : e.lo ≤ g ∧ g < e.hi) : Below w0.heap.size w0 W1 ∧ BlBox W1 gc hd (.slice (some ⟨gq, 0, none⟩) n cap) ∧ W1.ownsRow base 32 4 (.slice (some ⟨gq, 0, none⟩) n cap) n (esL es) ∧ ∀ j x, es[j]? = some x → j ≠ a → TxOk x.t ∧ gq < x.lo ∧ Sty (fun k => x.lo ≤ k ∧ k < x.hi) W1 (PC x) := by
  have f := h.far he hin
  refine ⟨h.bel.grown hg h.bel.size (fun k hk => by have : g = k := Option.some.inj hk; omega), h.box.far hg (fun e2 => f.2.1 (Option.some.inj e2)), h.own.kept hg (.inr fun e2 => f.1 (Option.some.inj e2).symm), fun j x hx hj => ?_⟩
  have ox := h.ok x (List.mem_of_getElem? hx)
  have tw := h.two hx he hj
  exact ⟨ox.1, ox.2.2.1, ox.2.2.2.2.on (Kps.grown hg fun k _ hk e2 => by have : k = g := Option.some.inj e2; omega)⟩
theorem RtC.swap (h : RtC gc gq n cap base hd es w0 W) (he : es[a]? = some e) (hc : e'.cells = e.cells) (ok : TxOk e'.t) (hg : W.grownBy W' (some g)) (hin : e.lo ≤ g ∧ g < e.hi) (hi : InsAt W' e'.iv e'.t.ins) (ho : OutsAt W' e'.ov e'.t.outs) : RtZ gc hd ((es.map (·.t)).set a e'.t) w0 W' := by
  obtain ⟨m1, m2, m3, m4⟩ := h.mid he hg hin
  refine ⟨m1, _, m2, ?_⟩
  rw [← List.map_set]
  refine TxsAt.of_own (base := base) ?_ fun x hx => ?_
  · rw [List.length_set, h.len, esL_same he hc]
    exact m3
  · rcases mem_set_or hx with rfl | ⟨j, hj, hx⟩
    · exact ⟨ok, hi, ho⟩
    · exact ⟨(m4 j x hx hj).1, (m4 j x hx hj).2.2.now.at⟩
theorem RtC.swap2 (h : RtC gc gq n cap base hd es w0 W) (he : es[a]? = some e) (ok : TxOk e'.t) (hg : W.grownBy W1 (some g)) (hin : e.lo ≤ g ∧ g < e.hi) (own : W2.ownsRow base 32 4 (.slice (some ⟨gq, 0, none⟩) n cap) n (esL (es.set a e'))) (hg2 : W1.grownBy W2 (some gq)) (hi : InsAt W2 e'.iv e'.t.ins) (ho : OutsAt W2 e'.ov e'.t.outs) : RtZ gc hd ((es.map (·.t)).set a e'.t) w0 W2 := by
  obtain ⟨m1, m2, m3, m4⟩ := h.mid he hg hin
  refine ⟨m1.grown hg2 m1.size (fun k hk => by have : gq = k := Option.some.inj hk; have := h.g0.1; omega), _, m2.far hg2 (fun e2 => h.ne (Option.some.inj e2)), ?_⟩
  rw [← List.map_set]
  refine TxsAt.of_own (base := base) (by rw [List.length_set, h.len]; exact own) fun x hx => ?_
  rcases mem_set_or hx with rfl | ⟨j, hj, hx⟩
  · exact ⟨ok, hi, ho⟩
  · obtain ⟨o1, o2, o3⟩ := m4 j x hx hj
    exact ⟨o1, (o3.on (Kps.grown hg2 fun k _ hk e2 => by have : k = gq := Option.some.inj e2; omega)).now.at⟩
/-- An element of one input and one output: its parts, and where they lie. -/
theorem RtC.parts (h : RtC gc gq n cap base hd es w0 W) (he : es[a]? = some e) {x : TIn} {y : TOut} (hx : e.t.ins = [x]) (hy : e.t.outs = [y]) : ∃ gi ci go co b1 b2 b3 kv, e.iv = .slice (some ⟨gi, 0, none⟩) 1 ci ∧ e.ov = .slice (some ⟨go, 0, none⟩) 1 co ∧ CSt b1 b2 b3 W e.iv e.ov kv x [] y [] [] ∧ gq < b1 ∧ gq < b3 ∧ (e.lo ≤ gi ∧ gi < e.hi) ∧ (e.lo ≤ go ∧ go < e.hi) := by
  have ok := h.ok e (List.mem_of_getElem? he)
  have st := ok.2.2.2.2
  obtain ⟨ks, b1, b2, b3, hlo, hc⟩ := st.now
  obtain ⟨c1, c2, c3, c4⟩ := hc
  have hk : ks.length = 1 := by rw [← c1.1, hx]; rfl
  obtain ⟨kv, rfl⟩ : ∃ kv, ks = [kv] := by
    match ks, hk with
    | [kv], _ => exact ⟨kv, rfl⟩
  have o1 := c1.2.2.1
  have o2 := c2.1
  obtain ⟨gi, ci, hiv, bi, li, _⟩ := own_blk o1 (by rw [hx]; simp)
  obtain ⟨go, co, hov, bo, lo', _⟩ := own_blk o2 (by rw [hy]; simp)
  have li1 : e.t.ins.length = 1 := by rw [hx]; rfl
  have lo1 : e.t.outs.length = 1 := by rw [hy]; rfl
  have b13 := c3
  obtain ⟨_, _, ri⟩ : ∃ cs, ∃ fr, W.heap[gi]? = some (.cells cs 42 fr) := by
    rcases o1.2 with ⟨h1, h2⟩ | ⟨g', cap', cur, h1, _, hg, _⟩
    · omega
    · rw [hiv] at h1
      cases h1
      exact ⟨_, _, hg⟩
  obtain ⟨_, _, ro⟩ : ∃ cs, ∃ fr, W.heap[go]? = some (.cells cs 44 fr) := by
    rcases o2.2 with ⟨h1, h2⟩ | ⟨g', cap', cur, h1, _, hg, _⟩
    · omega
    · rw [hov] at h1
      cases h1
      exact ⟨_, _, hg⟩
  have fi := sty_in st ri (fun W' hr hp => by
    obtain ⟨ks', b1', b2', b3', _, hc', _⟩ := hp
    have o := hc'.2.2.1
    rw [hiv, li1] at o
    exact own_empty o (by omega) (by omega) hr)
  have fo := sty_in st ro (fun W' hr hp => by
    obtain ⟨ks', b1', b2', b3', _, _, hc', _⟩ := hp
    have o := hc'.1
    rw [hov, lo1] at o
    exact own_empty o (by omega) (by omega) hr)
  refine ⟨gi, ci, go, co, b1, b2, b3, kv, by rw [hiv, li1], by rw [hov, lo1], CSt.of ⟨c1, c2, c3, c4⟩ hx hy, by have := ok.2.2.1; omega, by have := ok.2.2.1; omega, fi, fo⟩
theorem RtC.slim (h : RtC gc gq n cap base hd es w0 W) (ha : a ≤ n) (hg : W.grownBy W' (some gc)) (hb : BlBox W' gc hd (.slice (some ⟨gq, 0, none⟩) a cap)) : RtZ gc hd ((es.map (·.t)).take a) w0 W' := by
  refine ⟨h.bel.grown hg h.bel.size (fun k hk => by have : gc = k := Option.some.inj hk; have := h.g0.2.1; omega), _, hb, ?_⟩
  have hl := h.len
  have own : W'.ownsRow base 32 4 (.slice (some ⟨gq, 0, none⟩) n cap) n (esL es) := h.own.kept hg (.inr fun e2 => h.ne (Option.some.inj e2))
  have own2 : W'.ownsRow base 32 4 (.slice (some ⟨gq, 0, none⟩) a cap) (es.take a).length (esL (es.take a)) := by
    have e1 : (es.take a).length = a := by rw [List.length_take]; omega
    rw [e1]
    refine ⟨by rw [esL_length, e1], ?_⟩
    rcases own.2 with ⟨h1, _⟩ | ⟨g', cap', cur, h1, h2, h3, h4, h5, h6, h7⟩
    · cases h1
    · cases h1
      refine .inr ⟨gq, cap, cur, rfl, h2, h3, by omega, h5, h6, ?_⟩
      rw [← esL_take, ← h7, List.take_take, Nat.min_eq_left (by omega)]
  rw [← List.map_take]
  refine TxsAt.of_own (v := .slice (some ⟨gq, 0, none⟩) a cap) own2 fun x hx => ?_
  have ox := h.ok x (List.mem_of_mem_take hx)
  exact ⟨ox.1, (ox.2.2.2.2.on (Kps.grown hg fun k _ hk e2 => by have : k = gc := Option.some.inj e2; omega)).now.at⟩
/-- One more behind: the row is another one now, or grown. -/
theorem RtC.more (h : RtC gc gq n cap base hd es w0 W) (he : es[a]? = some e) {v : Value} (own : W1.ownsRow base 32 4 v (n + 1) (esL es ++ e.cells)) (hg : W.grownBy W1 (some gq)) : Below w0.heap.size w0 W1 ∧ BlBox W1 gc hd (.slice (some ⟨gq, 0, none⟩) n cap) ∧ ∀ W2, W1.grownBy W2 (some gc) → v.ownBlock ≠ some gc → BlBox W2 gc hd v → RtZ gc hd (es.map (·.t) ++ [e.t]) w0 W2 := by
  have m1 : Below w0.heap.size w0 W1 := h.bel.grown hg h.bel.size (fun k hk => by have : gq = k := Option.some.inj hk; have := h.g0.1; omega)
  refine ⟨m1, h.box.far hg (fun e2 => h.ne (Option.some.inj e2)), fun W2 hg2 hv hb => ⟨m1.grown hg2 m1.size (fun k hk => by have : gc = k := Option.some.inj hk; have := h.g0.2.1; omega), _, hb, ?_⟩⟩
  have e1 : es.map (·.t) ++ [e.t] = (es ++ [e]).map (·.t) := by simp
  rw [e1]
  refine TxsAt.of_own (base := base) ?_ fun x hx => ?_
  · rw [List.length_append, h.len, esL_snoc]
    exact own.kept hg2 (.inr hv)
  · have hm : x ∈ es := by
      rcases List.mem_append.1 hx with hx | hx
      · exact hx
      · rw [List.mem_singleton.1 hx]; exact List.mem_of_getElem? he
    have ox := h.ok x hm
    exact ⟨ox.1, ((ox.2.2.2.2.on (Kps.grown hg fun k _ hk e2 => by have : k = gq := Option.some.inj e2; omega)).on (Kps.grown hg2 fun k _ hk e2 => by have : k = gc := Option.some.inj e2; omega)).now.at⟩
end
/-! What is wanted. -/
theorem rtYs_0 {l : List UInt8} {m a : Nat} (ha : 1 ≤ a) : rtL l (rtYs m a 0) = (rtL l (rtXs m)).set a (rtT l a a 1000) := by
  obtain ⟨b, rfl⟩ : ∃ b, a = b + 1 := ⟨a - 1, by omega⟩
  unfold rtYs rtL
  rw [if_pos rfl, Nat.add_sub_cancel, List.set_cons_succ, List.map_set]
  rfl
theorem rtYs_1 {l : List UInt8} {m a : Nat} (ha : 1 ≤ a) : rtL l (rtYs m a 1) = (rtL l (rtXs m)).take a := by
  obtain ⟨b, rfl⟩ : ∃ b, a = b + 1 := ⟨a - 1, by omega⟩
  unfold rtYs rtL
  rw [if_neg (by omega), if_pos rfl, Nat.add_sub_cancel, List.take_succ_cons, List.map_take]
theorem rtYs_2 {l : List UInt8} {m a : Nat} : rtL l (rtYs m a 2) = rtL l (rtXs m) ++ [rtT l a a a] := by
  unfold rtYs rtL
  rw [if_neg (by omega), if_neg (by omega), if_pos rfl, List.map_append]
  rfl
theorem rtYs_3 {l : List UInt8} {m a : Nat} (ha : 1 ≤ a) : rtL l (rtYs m a 3) = (rtL l (rtXs m)).set a (rtT l 77 (a % (m - 1) + 1) a) := by
  obtain ⟨b, rfl⟩ : ∃ b, a = b + 1 := ⟨a - 1, by omega⟩
  unfold rtYs rtL
  rw [if_neg (by omega), if_neg (by omega), if_neg (by omega), Nat.add_sub_cancel, List.set_cons_succ, List.map_set]
  rfl
theorem rtL_get {l : List UInt8} {m a : Nat} (ha : 1 ≤ a ∧ a < m) : (rtL l (rtXs m))[a]? = some (rtT l a a a) := by
  obtain ⟨b, rfl⟩ : ∃ b, a = b + 1 := ⟨a - 1, by omega⟩
  unfold rtL
  rw [List.getElem?_cons_succ, List.getElem?_map, rtXs_get (by omega)]
  rfl
end Go.Proofs.YtcghbogkplcohaaDoor.Sha

/-
  The statements' own Fault, Same and Placed for an error with a place around it. Conditions: the errors are there, each its own.
-/
namespace Go.Proofs.YtcghbogkplcohaaDoor.Sha
open Go Go.RowKit
/-- A fault with a place around it. -/
def pC (c p : Int) : List Value := [.int .i64 c, .bool true, .int .i64 p, .bool false, .int .i64 0]
theorem placed_one (c p : Int) : ∀ u ∈ pC c p, u.oneCell' = true := by
  intro x hx
  simp [pC] at hx
  rcases hx with rfl | rfl | rfl | rfl | rfl <;> rfl
theorem placed_all (c p : Int) : (pC c p).toArray.all (·.oneCell') = true := by
  rw [Array.all_eq_true_iff_forall_mem]
  exact fun x hx => placed_one c p x (by simpa using hx)
set_option maxRecDepth 100000 in
theorem placed_any (c p : Int) (hc : c ≠ 0) (w : World) : Calls Tryd.prog 55 #[.int .i64 c, .int .i64 p] w fun e w' => e = .returned (.agg (pC c p).toArray) ∧ Below w.heap.size w w' := by
  have hq : (c == 0) = false := by rw [beq_eq_false_iff_ne]; exact hc
  clear hc
  go_enter Tryd.func55, Tryd.ntmps55
  go_wp2
  refine bodyPost_ret (v := .agg (pC c p).toArray) (by simp [results, Tryd.results55, go_sem]; rfl) rfl ⟨rfl, ?_⟩
  exact (Below.refl _ _).alloc (Nat.le_refl _) _
set_option maxRecDepth 100000 in
theorem same_placed (c p : Int) (w : World) : Calls Tryd.prog 39 #[.agg (pC c p).toArray, .agg (pC c p).toArray] w fun e w' => e = .returned (.bool true) ∧ Below w.heap.size w w' := by
  show Calls Tryd.prog 39 #[.agg #[.int .i64 c, .bool true, .int .i64 p, .bool false, .int .i64 0], .agg #[.int .i64 c, .bool true, .int .i64 p, .bool false, .int .i64 0]] w _
  have hq : (c == c) = true := by simp
  have hp : (p == p) = true := by simp
  go_enter Tryd.func39, Tryd.ntmps39
  go_wp2
  go_ret
  exact ⟨rfl, ((Below.refl _ _).alloc (Nat.le_refl _) _).alloc (by simp) _⟩
set_option maxHeartbeats 2000000 in
set_option maxRecDepth 100000 in
theorem fault_at (E : Nat → Addr) (q : Nat) (p : Int) (g : Nat) (w : World) (hE : Errs w E) (hq : q < 25) (hr : w.heap[g]? = some (.cells #[.int .i64 p, errV E (q + 1)] 81 (0, 0))) :
    Calls Tryd.prog 40 #[.iface 79 (.pointer (some ⟨g, 0, none⟩))] w fun e w' => e = .returned (.agg (pC ((101 + q : Nat) : Int) p).toArray) ∧ Below w.heap.size w w' := by
  obtain ⟨kk, hkk⟩ : ∃ kk : Int, kk = ((101 + q : Nat) : Int) := ⟨_, rfl⟩
  rw [← hkk]
  have HN : Hid (kk ≠ 0) := by show _ ≠ _; omega
  have hta : ∀ W, (Instr.typeAssert (.iface 127 (.pointer (some (E q)))) 47 79 true).run Tryd.prog W = .ok (.tuple #[.pointer none, .bool false]) W := fun W => by kernel_rfl
  have htb : ∀ W, (Instr.typeAssert (.iface 79 (.pointer (some ⟨g, 0, none⟩))) 47 79 true).run Tryd.prog W = .ok (.tuple #[.pointer (some ⟨g, 0, none⟩), .bool true]) W := fun W => by kernel_rfl
  have HS : Hid (∀ W, Below w.heap.size w W → Calls Tryd.prog 54 #[errV E (q + 1)] W fun e w' => e = .returned (.int .i64 kk) ∧ Below W.heap.size W w') := fun W hW => sentinel_any E q kk hkk _ (hE.below hW) hq
  have C0 : Hid (∀ W, Below w.heap.size w W → W.cell? ⟨g, 0, none⟩ = some (.int .i64 p)) := fun W hW => by rw [cell_of_row _ _ _ _ _ _ (row_below hr hW)]; rfl
  have C1 : Hid (∀ W, Below w.heap.size w W → W.cell? ⟨g, 1, none⟩ = some (.iface 127 (.pointer (some (E q))))) := fun W hW => by rw [cell_of_row _ _ _ _ _ _ (row_below hr hW)]; rfl
  clear hkk hE hr
  go_enter Tryd.func40, Tryd.ntmps40
  go_upto_region 1 with fail
  have f1 := heap_alloc_new w (.cells (fC 0).toArray 68 (0, 0))
  have b1 := (Below.refl w.heap.size w).alloc (Nat.le_refl _) (.cells (fC 0).toArray 68 (0, 0))
  generalize hw1 : World.alloc _ _ = w1
  have e1 : w.alloc (.cells (fC 0).toArray 68 (0, 0)) = w1 := hw1
  rw [e1] at f1 b1
  have FR := Lib.hid f1
  have B1 := Lib.hid b1
  have c1 := C1.out w1 b1
  clear hw1 e1 f1 b1
  go_wp2_with fail
  clear c1 hta htb
  refine wp_region_held_drew (S := (fun w' => Below w.heap.size w w')) (by kernel_rfl) (Below.drew B1.out) (fun hHeld => ?_)
  have FR : Hid (w1.drew.heap[w.heap.size]? = some (.cells (fC 0).toArray 68 (0, 0))) := FR.out
  generalize hwd : w1.drew = wd at FR hHeld ⊢
  clear hwd
  refine held_take (i := 0) (v := (.pointer (some ⟨g, 0, none⟩))) rfl (by kernel_rfl) (by kernel_rfl) (by kernel_rfl) (fun _ _ _ h => h) (Or.inl ⟨by rfl, fun w' _ => by kernel_rfl⟩) hHeld ?_
  go_frame
  refine held_take (i := 1) (v := (.pointer (some ⟨g, 0, none⟩))) rfl (by kernel_rfl) (by kernel_rfl) (by kernel_rfl) (fun _ _ _ h => h) (Or.inl ⟨by rfl, fun w' _ => by kernel_rfl⟩) hHeld ?_
  go_frame
  refine held_take (i := 2) (v := (.pointer (some ⟨g, 1, none⟩))) rfl (by kernel_rfl) (by kernel_rfl) (by kernel_rfl) (fun _ _ _ h => h) (Or.inl ⟨by rfl, fun w' _ => by kernel_rfl⟩) hHeld ?_
  go_frame
  refine held_take (i := 3) (v := (.iface 127 (.pointer (some (E q))))) rfl (by kernel_rfl) (by kernel_rfl) (by kernel_rfl) (fun _ _ _ h => h) (yieldsIf_load_one (by rfl) 47 (.tmp 42) rfl g (1) rfl _ _ (fun w' hw' => C1.out w' hw') Tryd.underlying47 rfl) hHeld ?_
  go_frame
  refine held_take (i := 5) (v := (.pointer (some ⟨g, 0, none⟩))) rfl (by kernel_rfl) (by kernel_rfl) (by kernel_rfl) (fun _ _ _ h => h) (Or.inl ⟨by rfl, fun w' _ => by kernel_rfl⟩) hHeld ?_
  go_frame
  refine held_take (i := 6) (v := (.pointer (some ⟨g, 0, none⟩))) rfl (by kernel_rfl) (by kernel_rfl) (by kernel_rfl) (fun _ _ _ h => h) (Or.inl ⟨by rfl, fun w' _ => by kernel_rfl⟩) hHeld ?_
  go_frame
  refine held_take (i := 7) (v := (.pointer (some ⟨g, 0, none⟩))) rfl (by kernel_rfl) (by kernel_rfl) (by kernel_rfl) (fun _ _ _ h => h) (Or.inl ⟨by rfl, fun w' _ => by kernel_rfl⟩) hHeld ?_
  go_frame
  refine held_take (i := 8) (v := (.int .i64 p)) rfl (by kernel_rfl) (by kernel_rfl) (by kernel_rfl) (fun _ _ _ h => h) (yieldsIf_load_one (by rfl) 3 (.tmp 47) rfl g (0) rfl _ _ (fun w' hw' => C0.out w' hw') Tryd.underlying3 rfl) hHeld ?_
  go_frame
  refine wpAnyH_ready (rs := [4]) (by kernel_rfl) (by simp) (held_cons rfl (fun K hK => ?_) AllReadyH.nil)
  go_simp
  refine (HS.out _ hHeld).mono ?_
  rintro e v1 ⟨rfl, bb⟩
  have FR := Lib.hid (row_below FR.out bb)
  have hv1 := hHeld.trans (bb.mono hHeld.size)
  clear bb hHeld
  go_wp2_with fail
  refine hK.out _ _ hv1 (fun hHeld => ?_)
  clear hK K hv1
  refine wpAnyH_ready (rs := [9]) (by kernel_rfl) (by simp) (held_cons rfl (fun K hK => ?_) AllReadyH.nil)
  go_simp
  refine (placed_any kk p HN.out _).mono ?_
  rintro e v2 ⟨rfl, bb⟩
  have FR := Lib.hid (row_below FR.out bb)
  have hv2 := hHeld.trans (bb.mono hHeld.size)
  clear bb hHeld
  go_wp2_with fail
  refine hK.out _ _ hv2 (fun hHeld => ?_)
  clear hK K hv2
  refine wpAnyH_ready (rs := [10]) (by kernel_rfl) (by simp) (held_cons rfl (fun K hK => ?_) AllReadyH.nil)
  rw [if_pos (by rfl)]
  refine wp_store_whole 68 (.tmp 2) (.tmp 49) rfl w.heap.size (fC 0) (pC kk p) 68 rfl rfl (rfl) FR.out (by kernel_rfl) (placed_all _ _) ?_
  intro v3 q1 q2
  have FR := Lib.hid q1
  have hv3 := hHeld.grown q2 hHeld.size (fun k hk => by cases hk; exact Nat.le_refl _)
  clear q1 q2 hHeld
  go_frame
  refine hK.out _ _ hv3 (fun hHeld => ?_)
  clear hK K hv3
  refine wpAnyH_done (by kernel_rfl) ?_ _
  go_wp2_with fail
  refine bodyPost_ret (results_cell_row rfl _ _ w.heap.size 68 (pC kk p).toArray (0, 0) _ rfl FR.out Tryd.underlying68 rfl (by kernel_rfl)) rfl ⟨rfl, hHeld⟩
theorem fltv_fault {w : World} {E : Nat → Addr} {v : Value} {q p : Nat} (h : FltV w E v (q + 1, some p)) : ∃ g, v = .iface 79 (.pointer (some ⟨g, 0, none⟩)) ∧ w.heap[g]? = some (.cells #[.int .i64 (p : Int), errV E (q + 1)] 81 (0, 0)) := by
  rcases h with ⟨h, _⟩ | ⟨q', p', g, h1, h2, h3⟩
  · simp at h
  · simp only [Prod.mk.injEq, Option.some.injEq, Nat.add_right_cancel_iff] at h1
    obtain ⟨rfl, rfl⟩ := h1
    exact ⟨g, h2, h3⟩
set_option maxRecDepth 100000 in
/-- An error with a place around it is the fault that it should be. -/
theorem same_at (E : Nat → Addr) (q p : Nat) (v : Value) (w : World) (hE : Errs w E) (hq : q < 25) (hf : FltV w E v (q + 1, some p)) :
    Calls Tryd.prog 24 #[v, .agg (pC ((101 + q : Nat) : Int) (p : Int)).toArray] w fun e w' => e = .returned (.bool true) ∧ Below w.heap.size w w' := by
  obtain ⟨kk, hkk⟩ : ∃ kk : Int, kk = ((101 + q : Nat) : Int) := ⟨_, rfl⟩
  obtain ⟨pp, hpp⟩ : ∃ pp : Int, pp = (p : Int) := ⟨_, rfl⟩
  obtain ⟨cs, hcs⟩ : ∃ cs, cs = pC kk pp := ⟨_, rfl⟩
  have HF : Hid (∀ W, Below w.heap.size w W → Calls Tryd.prog 40 #[v] W fun e w' => e = .returned (.agg cs.toArray) ∧ Below W.heap.size W w') := fun W hW => by
    obtain ⟨g, rfl, hr⟩ := fltv_fault hf
    rw [hcs, hkk, hpp]
    exact fault_at E q (p : Int) g W (hE.below hW) hq (row_below hr hW)
  have HSM : Hid (∀ W, Calls Tryd.prog 39 #[.agg cs.toArray, .agg cs.toArray] W fun e w' => e = .returned (.bool true) ∧ Below W.heap.size W w') := fun W => by rw [hcs]; exact same_placed kk pp W
  have LC : Hid (cs.toArray.size = 5) := by show _ = _; rw [hcs]; rfl
  rw [← hkk, ← hpp, ← hcs]
  clear hkk hpp hcs hE hf
  go_enter Tryd.func24, Tryd.ntmps24
  go_wp2_with fail
  have e1 := heap_alloc_new w (.cells cs.toArray 68)
  have b1 : Below w.heap.size w (w.alloc (.cells cs.toArray 68)) := (Below.refl _ _).alloc (Nat.le_refl _) _
  generalize hw1 : World.alloc _ _ = w1
  have e0 : w.alloc (.cells cs.toArray 68) = w1 := hw1
  rw [e0] at e1 b1
  have E1 := Lib.hid e1
  have B1 := Lib.hid b1
  clear e0 hw1 e1 b1
  refine wp_region_below (by kernel_rfl) (by kernel_rfl) w1 (Below.refl _ _) ?_
  go_big_quiet_step ((intro _; rfl))
  go_big_quiet_step ((intro hw'; exact cls hw' (HF.out _ (B1.out.trans (hw'.mono B1.out.size)))))
  go_big_quiet_want
  refine quiet_load_row 68 (.tmp 3) rfl w.heap.size rfl 68 cs.toArray (0, 0) _ (fun w' hw' => row_below E1.out hw') Tryd.underlying68 rfl (by rw [LC.out]; kernel_rfl) ?_
  go_frame
  go_big_quiet_on
  go_big_quiet_step ((intro hw'; exact cls hw' (HSM.out _)))
  go_big_quiet_step ((intro _; rfl))
  refine wpQuiet_nil ?_
  intro w2 hw2
  have B2 := Lib.hid (B1.out.trans (hw2.mono B1.out.size))
  clear hw2
  go_wp2_with fail
  go_ret
  exact ⟨rfl, B2.out⟩
end Go.Proofs.YtcghbogkplcohaaDoor.Sha
