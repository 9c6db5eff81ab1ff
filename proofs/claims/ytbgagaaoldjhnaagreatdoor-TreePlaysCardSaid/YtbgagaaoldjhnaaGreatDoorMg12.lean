/-
  Texts of this proof joined into one file: CtDown, Txs, HdStore, BlStore, TxReadW, MkClimb0, BlFirst, BlMath, BlSm, HdBytes, HdId, BlIds, BlStart, TwMath. What each holds, and under which conditions, its own first sentence tells.
-/
import Derived.Deep.LoopGhost
import Derived.LaidEqlPtr
import Derived.Lib.Builder
import Derived.Laws.ResultCell
import Derived.Lib.AppendZerosOnto
import Derived.Lib.Walk
import Derived.IntWalk
import Derived.Lib.BufferRead
import Derived.Test.YtbgagaaoldjhnaaGreatDoorMg11
import Derived.Test.YtbgagaaoldjhnaaGreatDoorMg05
import Derived.Test.YtbgagaaoldjhnaaGreatDoorMg09
import Derived.Test.YtbgagaaoldjhnaaGreatDoorMg03
import Derived.Test.YtbgagaaoldjhnaaGreatDoorMg01
import Derived.Test.YtbgagaaoldjhnaaGreatDoorMg04
/-
  The program's tree: down to a height, where two chains meet, the ids above a node. Nothing that was there turns. Conditions: the tree lies where it should, nodes as the model has them.
-/
namespace Go.Proofs.YtbgagaaoldjhnaaGreatDoor.Sha
open Go Go.RowKit
theorem anc_chainAt {L : List TNd} {k t : Int} {j : Int} (h0 : 0 ≤ t) (h : ancT L k t = some j) : (chainT L k)[t.toNat]? = some j := by
  unfold ancT at h
  rwa [if_neg (by omega)] at h
theorem chain_ok {L : List TNd} (h : TrL L) {k t : Nat} {x : TNd} {j : Int} (hx : L[k]? = some x) (hj : (chainT L (k : Int))[t]? = some j) : ∃ (i : Nat) (y : TNd), j = (i : Int) ∧ L[i]? = some y ∧ y.height = (t : Int) := by
  have hl := chain_length h hx
  have ht := (List.getElem?_eq_some_iff.1 hj).1
  obtain ⟨i, y, h1, _, h2, h3⟩ := anc_is h k k x (t : Int) (Nat.le_refl _) hx (by omega) (by omega)
  have h4 := anc_chainAt (by omega) h1
  rw [Int.toNat_natCast, hj] at h4
  exact ⟨i, y, by injection h4, h2, h3⟩
theorem chain_prev {L : List TNd} (h : TrL L) {k t : Nat} {x : TNd} {j : Nat} {y : TNd} (hx : L[k]? = some x) (hj : (chainT L (k : Int))[t + 1]? = some (j : Int)) (hy : L[j]? = some y) : ∃ (p : Nat) (z : TNd), y.parent = (p : Int) ∧ L[p]? = some z ∧ (chainT L (k : Int))[t]? = some (p : Int) := by
  obtain ⟨i, y', e, hy', hh⟩ := chain_ok h hx hj
  have e : j = i := by omega
  subst e
  rw [hy] at hy'
  cases hy'
  rcases h.parent hy with ⟨_, _, h3⟩ | ⟨p, z, _, h3, h4, h5⟩
  · omega
  · refine ⟨p, z, h3, h4, ?_⟩
    have q := anc_chain h k k x j (t + 1) (Nat.le_refl _) hx hj
    have e2 : ((chainT L (k : Int)).take (t + 1 + 1))[t]? = (chainT L (j : Int))[t]? := by rw [q]
    rw [List.getElem?_take_of_lt (by omega)] at e2
    rw [e2, chain_step h.down hy, h3]
    have hl := chain_length h h4
    rw [List.getElem?_append_left (by omega)]
    have q2 := anc_self h h4
    have q3 := anc_chainAt (by omega) q2
    rw [show z.height.toNat = t by omega] at q3
    exact q3
def DnInv (M : List CNd) (k0 t : Int) (n : Nat) (v : Value) : Prop :=
  ∃ (j : Nat) (d : CNd), M[j]? = some d ∧ v = .pointer (some ⟨d.ad, 0, none⟩) ∧ (n : Int) = d.nd.height - t ∧ 0 ≤ d.nd.height - t ∧ ancT (ndM M) k0 t = ancT (ndM M) (j : Int) t
section
variable {w : World} {base b mb : Nat} {M : List CNd}
/-- A node's cells, in every later world. -/
theorem CtAt.cells (h : CtAt w base b mb M) (ht : TrL (ndM M)) {i : Nat} {c : CNd} (hc : M[i]? = some c) {W : World} (hW : Below w.heap.size w W) : W.cell? ⟨c.ad, 100, none⟩ = some (.int .i64 c.nd.height) ∧ W.cell? ⟨c.ad, 101, none⟩ = some (.int .u64 (c.nd.work : Int)) ∧ W.cell? ⟨c.ad, 102, none⟩ = some (nptr (cnP M c.nd.parent)) ∧ W.cell? ⟨c.ad, 103, none⟩ = some c.kids :=
  have ok := ht.ok _ (List.mem_of_getElem? (ndM_at hc))
  cn_cells ((h.below hW).node i c hc) ok.1 ok.2.1
theorem CtAt.idr (h : CtAt w base b mb M) {i : Nat} {c : CNd} (hc : M[i]? = some c) {W : World} (hW : Below w.heap.size w W) : W.rangeAt c.ad 0 (c.nd.id.map bV) := cn_id ((h.below hW).node i c hc)
theorem CtAt.far2 (h : CtAt w base b mb M) {i j : Nat} {c d : CNd} (hc : M[i]? = some c) (hd : M[j]? = some d) (hij : i ≠ j) : c.ad ≠ d.ad := (h.ne i j c d hc hd hij).1
end
theorem info_tnode : (Tryz.prog.info? 73).map (·.size) = some 104 := by kernel_rfl
theorem neq_node_same (g : Nat) (W : World) : (binOp .neq 70 (.pointer (some ⟨g, 0, none⟩)) (.pointer (some ⟨g, 0, none⟩))).run Tryz.prog W = .ok (.bool false) W := by
  obtain ⟨j, hj, _⟩ := Option.map_eq_some_iff.1 info_tnode
  exact Lib.run_neq_ptr_same W _ Tryz.underlying70 hj
theorem neq_node_other {g q : Nat} {W : World} {c d : Array Value} {T U : TypeId} (h : g ≠ q) (hg : W.heap[g]? = some (.cells c T (0, 0))) (hq : W.heap[q]? = some (.cells d U (0, 0))) : (binOp .neq 70 (.pointer (some ⟨g, 0, none⟩)) (.pointer (some ⟨q, 0, none⟩))).run Tryz.prog W = .ok (.bool true) W := by
  obtain ⟨j, hj, hs⟩ := Option.map_eq_some_iff.1 info_tnode
  have h2 := run_sameAddr_other (P := Tryz.prog) (a := ⟨g, 0, none⟩) (b := ⟨q, 0, none⟩) W (fun e => h (by injection e)) hg hq
  have h1 : ∀ d : Nat, (Op.equalIn (d + 1) 70 (.pointer (some ⟨g, 0, none⟩)) (.pointer (some ⟨q, 0, none⟩))).run Tryz.prog W = .ok false W := fun d => by
    simp [Op.equalIn, run_underlying Tryz.underlying70, sizeOf, typeInfo, hj, hs, h2]
  simp only [binOp]
  simp [Op.equal, Op.maxDepth, h1 9999]
set_option maxHeartbeats 1000000 in
set_option maxRecDepth 100000 in
theorem ctdown_any (w : World) (base b mb : Nat) (M : List CNd) (k : Nat) (c : CNd) (t : Int) (h : CtAt w base b mb M) (ht : TrL (ndM M)) (hc : M[k]? = some c) (h0 : 0 ≤ t) (h1 : t ≤ c.nd.height) (W : World) (hW : Below w.heap.size w W) :
    Calls Tryz.prog 38 #[.pointer (some ⟨c.ad, 0, none⟩), .int .i64 t] W fun e w' => (∃ (j : Nat) (d : CNd), M[j]? = some d ∧ ancT (ndM M) (k : Int) t = some (j : Int) ∧ d.nd.height = t ∧ e = .returned (.pointer (some ⟨d.ad, 0, none⟩))) ∧ W = w' := by
  have HT := Lib.hid h
  have TR := Lib.hid ht
  have HC := Lib.hid hc
  have HW := Lib.hid hW
  have H0 := Lib.hid h0
  have H1 := Lib.hid h1
  clear h ht hc hW h0 h1
  go_enter Tryz.func38, Tryz.ntmps38
  go_wp2_with fail
  go_loopg [0] (c.nd.height - t).toNat (fun n v wr => DnInv M (k : Int) t n v ∧ W = wr)
  case atStart => exact ⟨⟨k, c, HC.out, rfl, by have := H1.out; omega, by have := H1.out; omega, rfl⟩, rfl⟩
  case round =>
    obtain ⟨⟨j, d, hd, rfl, hn, hn0, ha⟩, rfl⟩ := hrel
    obtain ⟨c100, _, c102, _⟩ := HT.out.cells TR.out hd HW.out
    obtain ⟨H, hH⟩ : ∃ H, H = d.nd.height := ⟨_, rfl⟩
    rw [← hH] at c100 hn hn0
    have HD := Lib.hid hd
    have HA := Lib.hid ha
    have HN := Lib.hid hn
    have HHE := Lib.hid hH
    by_cases hgt : t < H
    · rcases TR.out.parent (ndM_at hd) with ⟨_, _, h3⟩ | ⟨p, y, _, h3, h4, h5⟩
      · have := H0.out; omega
      · obtain ⟨q, hq, hqe⟩ := ndM_get h4
        rw [h3, cnP_at hq] at c102
        have C102 : Hid (nptr (some q.ad) = .pointer (some ⟨q.ad, 0, none⟩)) := rfl
        rw [C102.out] at c102
        have QE : Hid (M[p]? = some q) := hq
        have PE : Hid (d.nd.parent = (p : Int)) := h3
        have QH : Hid (H = q.nd.height + 1) := by show _ = _; rw [hH, hqe]; exact h5
        clear hd hn hn0 ha hH h3 h4 h5 hq hqe C102
        go_wp2_with fail
        go_roundg (gk - 1)
        case measure => have := HN.out; omega
        case rel =>
          exact ⟨⟨p, q, QE.out, rfl, by have := HN.out; have := QH.out; omega, by have := QH.out; omega, by rw [HA.out, anc_step TR.out (ndM_at HD.out) (by rw [← HHE.out]; omega), PE.out]⟩, rfl⟩
    · have e : H = t := by omega
      have EQ := Lib.hid e
      clear hd hn hn0 ha hH e
      go_wp2_with fail
      go_ret
      exact ⟨⟨j, d, HD.out, by rw [HA.out, ← EQ.out, HHE.out]; exact anc_self TR.out (ndM_at HD.out), by rw [← HHE.out]; exact EQ.out, rfl⟩, rfl⟩
/-- What meet leaves. -/
def MePost (M : List CNd) (x y : Int) (e : Ending) : Prop :=
  ∃ (j : Nat) (f : CNd) (t : Nat), M[j]? = some f ∧ e = .returned (.pointer (some ⟨f.ad, 0, none⟩)) ∧ (chainT (ndM M) x)[t]? = some (j : Int) ∧ (chainT (ndM M) y)[t]? = some (j : Int) ∧ comT (ndM M) x y = t + 1
def MeInv (M : List CNd) (x y : Int) (t : Nat) (v u : Value) : Prop :=
  ∃ (j i : Nat) (f g : CNd), M[j]? = some f ∧ M[i]? = some g ∧ v = .pointer (some ⟨f.ad, 0, none⟩) ∧ u = .pointer (some ⟨g.ad, 0, none⟩) ∧ (chainT (ndM M) x)[t]? = some (j : Int) ∧ (chainT (ndM M) y)[t]? = some (i : Int) ∧ (∀ s : Nat, t < s → s < (chainT (ndM M) x).length → s < (chainT (ndM M) y).length → (chainT (ndM M) x)[s]? ≠ (chainT (ndM M) y)[s]?)
set_option maxHeartbeats 1000000 in
set_option maxRecDepth 100000 in
theorem ctmeet_any (w : World) (base b mb : Nat) (M : List CNd) (x y : Nat) (c d : CNd) (h : CtAt w base b mb M) (ht : TrL (ndM M)) (hc : M[x]? = some c) (hd : M[y]? = some d) (W : World) (hW : Below w.heap.size w W) :
    Calls Tryz.prog 45 #[.pointer (some ⟨c.ad, 0, none⟩), .pointer (some ⟨d.ad, 0, none⟩)] W fun e w' => MePost M (x : Int) (y : Int) e ∧ Below W.heap.size W w' := by
  have HT := Lib.hid h
  have TR := Lib.hid ht
  have HC := Lib.hid hc
  have HD := Lib.hid hd
  have HW := Lib.hid hW
  have C1 : Hid (∀ U, Below W.heap.size W U → U.cell? ⟨c.ad, 100, none⟩ = some (.int .i64 c.nd.height) ∧ True) := fun U hU => ⟨(h.cells ht hc (hW.trans (hU.mono hW.size))).1, trivial⟩
  have C2 : Hid (∀ U, Below W.heap.size W U → U.cell? ⟨d.ad, 100, none⟩ = some (.int .i64 d.nd.height) ∧ True) := fun U hU => ⟨(h.cells ht hd (hW.trans (hU.mono hW.size))).1, trivial⟩
  have DN : Hid (∀ (t : Int), 0 ≤ t → t ≤ c.nd.height → ∀ U, Below W.heap.size W U → Calls Tryz.prog 38 #[.pointer (some ⟨c.ad, 0, none⟩), .int .i64 t] U fun e w' => (∃ (j : Nat) (d : CNd), M[j]? = some d ∧ ancT (ndM M) (x : Int) t = some (j : Int) ∧ d.nd.height = t ∧ e = .returned (.pointer (some ⟨d.ad, 0, none⟩))) ∧ U = w') := fun t h0 h1 U hU => ctdown_any w base b mb M x c t h ht hc h0 h1 U (hW.trans (hU.mono hW.size))
  have DM : Hid (∀ (t : Int), 0 ≤ t → t ≤ d.nd.height → ∀ U, Below W.heap.size W U → Calls Tryz.prog 38 #[.pointer (some ⟨d.ad, 0, none⟩), .int .i64 t] U fun e w' => (∃ (j : Nat) (e' : CNd), M[j]? = some e' ∧ ancT (ndM M) (y : Int) t = some (j : Int) ∧ e'.nd.height = t ∧ e = .returned (.pointer (some ⟨e'.ad, 0, none⟩))) ∧ U = w') := fun t h0 h1 U hU => ctdown_any w base b mb M y d t h ht hd h0 h1 U (hW.trans (hU.mono hW.size))
  have hH1 := ht.height (ndM_at hc)
  have hH2 := ht.height (ndM_at hd)
  have cl1 := chain_length ht (ndM_at hc)
  have cl2 := chain_length ht (ndM_at hd)
  obtain ⟨H, hH⟩ : ∃ H, H = c.nd.height := ⟨_, rfl⟩
  obtain ⟨G, hG⟩ : ∃ G, G = d.nd.height := ⟨_, rfl⟩
  rw [← hH] at C1 DN hH1 cl1
  rw [← hG] at C2 DM hH2 cl2
  obtain ⟨low, hlow⟩ : ∃ low : Int, low = if G < H then G else H := ⟨_, rfl⟩
  have LOW : Hid ((if G < H then G else H) = low) := hlow.symm
  have LOWM : Hid (min H G = low) := by show _ = _; rw [hlow]; split <;> omega
  have LO : Hid (0 ≤ low ∧ low ≤ H ∧ low ≤ G ∧ ∀ s : Nat, low.toNat < s → s < (chainT (ndM M) (x : Int)).length → s < (chainT (ndM M) (y : Int)).length → (chainT (ndM M) (x : Int))[s]? ≠ (chainT (ndM M) (y : Int))[s]?) := by
    rw [hlow]
    split
    · exact ⟨by omega, by omega, by omega, fun s h1 h2 h3 => by omega⟩
    · exact ⟨by omega, by omega, by omega, fun s h1 h2 h3 => by omega⟩
  clear h ht hc hd hW hH hG hlow hH1 hH2 cl1 cl2
  go_enter Tryz.func45, Tryz.ntmps45
  go_upto_region 1 with fail
  refine wp_region_held_drew (S := (fun w' => Below W.heap.size W w')) (by kernel_rfl) (Below.drew (Below.refl _ _)) (fun hHeld => ?_)
  generalize hwd : W.drew = wd at  hHeld ⊢
  clear hwd
  refine held_take (i := 0) (v := (.pointer (some ⟨c.ad, 0, none⟩))) rfl (by kernel_rfl) (by kernel_rfl) (by kernel_rfl) (fun _ _ _ h => h) (Or.inl ⟨by rfl, fun w' _ => by kernel_rfl⟩) hHeld ?_
  go_frame
  refine held_take (i := 1) (v := (.pointer (some ⟨c.ad, 0, none⟩))) rfl (by kernel_rfl) (by kernel_rfl) (by kernel_rfl) (fun _ _ _ h => h) (Or.inl ⟨by rfl, fun w' _ => by kernel_rfl⟩) hHeld ?_
  go_frame
  refine held_take (i := 2) (v := (.pointer (some ⟨c.ad, 100, none⟩))) rfl (by kernel_rfl) (by kernel_rfl) (by kernel_rfl) (fun _ _ _ h => h) (Or.inl ⟨by rfl, fun w' _ => by kernel_rfl⟩) hHeld ?_
  go_frame
  refine held_take (i := 3) (v := (.int .i64 H)) rfl (by kernel_rfl) (by kernel_rfl) (by kernel_rfl) (fun _ _ _ h => h) (yieldsIf_load_one (by rfl) 3 (.tmp 8) rfl c.ad (100) rfl _ _ (fun w' hw' => (C1.out w' hw').1) Tryz.underlying3 rfl) hHeld ?_
  go_frame
  refine held_take (i := 4) (v := (.pointer (some ⟨d.ad, 0, none⟩))) rfl (by kernel_rfl) (by kernel_rfl) (by kernel_rfl) (fun _ _ _ h => h) (Or.inl ⟨by rfl, fun w' _ => by kernel_rfl⟩) hHeld ?_
  go_frame
  refine held_take (i := 5) (v := (.pointer (some ⟨d.ad, 0, none⟩))) rfl (by kernel_rfl) (by kernel_rfl) (by kernel_rfl) (fun _ _ _ h => h) (Or.inl ⟨by rfl, fun w' _ => by kernel_rfl⟩) hHeld ?_
  go_frame
  refine held_take (i := 6) (v := (.pointer (some ⟨d.ad, 100, none⟩))) rfl (by kernel_rfl) (by kernel_rfl) (by kernel_rfl) (fun _ _ _ h => h) (Or.inl ⟨by rfl, fun w' _ => by kernel_rfl⟩) hHeld ?_
  go_frame
  refine held_take (i := 7) (v := (.int .i64 G)) rfl (by kernel_rfl) (by kernel_rfl) (by kernel_rfl) (fun _ _ _ h => h) (yieldsIf_load_one (by rfl) 3 (.tmp 12) rfl d.ad (100) rfl _ _ (fun w' hw' => (C2.out w' hw').1) Tryz.underlying3 rfl) hHeld ?_
  go_frame
  refine held_take (i := 8) (v := (.int .i64 low)) rfl (by kernel_rfl) (by kernel_rfl) (by kernel_rfl) (fun _ _ _ h => h) (Or.inl ⟨by rfl, fun w' _ => by go_simp; first | rw [LOW.out] | rw [LOWM.out]⟩) hHeld ?_
  go_frame
  refine held_take (i := 9) (v := (.int .i64 low)) rfl (by kernel_rfl) (by kernel_rfl) (by kernel_rfl) (fun _ _ _ h => h) (Or.inl ⟨by rfl, fun w' _ => by kernel_rfl⟩) hHeld ?_
  go_frame
  refine wpAnyH_done (by kernel_rfl) ?_ _
  obtain ⟨W1, hW1⟩ : ∃ W1, W1 = wd := ⟨_, rfl⟩
  rw [← hW1] at hHeld ⊢
  clear hW1
  have B1 := Lib.hid hHeld
  clear hHeld C1 C2
  go_wp2_with fail
  refine (DN.out low LO.out.1 LO.out.2.1 _ B1.out).mono ?_
  rintro e w2 ⟨⟨j, f, hf, hfa, hfh, rfl⟩, rfl⟩
  have FJ := Lib.hid hf
  have FA := Lib.hid (anc_chainAt LO.out.1 hfa)
  clear hf hfa hfh
  go_wp2_with fail
  refine (DM.out low LO.out.1 LO.out.2.2.1 _ B1.out).mono ?_
  rintro e w2 ⟨⟨i, g, hg, hga, hgh, rfl⟩, rfl⟩
  have GI := Lib.hid hg
  have GA := Lib.hid (anc_chainAt LO.out.1 hga)
  clear hg hga hgh DN DM
  go_wp2_with fail
  go_loopg [0, 1] low.toNat (fun n v u wr => MeInv M (x : Int) (y : Int) n v u ∧ Below W.heap.size W wr)
  case atStart => exact ⟨⟨j, i, f, g, FJ.out, GI.out, rfl, rfl, FA.out, GA.out, LO.out.2.2.2⟩, B1.out⟩
  case round =>
    clear FJ GI FA GA
    obtain ⟨⟨j, i, f, g, hf, hg, rfl, rfl, h1, h2, h3⟩, hb⟩ := hrel
    have BW := Lib.hid hb
    clear hb B1
    have FJ := Lib.hid hf
    have GI := Lib.hid hg
    have H1 := Lib.hid h1
    have H2 := Lib.hid h2
    have H3 := Lib.hid h3
    clear h1 h2 h3
    by_cases hij : j = i
    · subst hij
      rw [hf] at hg
      obtain rfl : f = g := by injection hg
      clear hf GI
      have hq := neq_node_same f.ad wr
      go_wp2_with fail
      go_ret
      obtain ⟨_, y', e, hy', hh⟩ := chain_ok TR.out (ndM_at HC.out) H1.out
      exact ⟨⟨j, f, gk, FJ.out, rfl, H1.out, H2.out, com_chain TR.out (ndM_at HC.out) (ndM_at HD.out) H1.out H2.out H3.out⟩, BW.out⟩
    · have hT := HT.out.below (HW.out.trans (BW.out.mono HW.out.size))
      have hq := neq_node_other (HT.out.far2 hf hg hij) (hT.node _ _ hf) (hT.node _ _ hg)
      clear hT
      obtain ⟨s, hs⟩ : ∃ s, gk = s + 1 := by
        cases gk with
        | zero =>
          have z1 := chain_zero TR.out (ndM_at HC.out)
          have z2 := chain_zero TR.out (ndM_at HD.out)
          have e1 := H1.out
          have e2 := H2.out
          rw [z1] at e1
          rw [z2] at e2
          have e3 : (0 : Int) = (j : Int) := by injection e1
          have e4 : (0 : Int) = (i : Int) := by injection e2
          exact absurd (by omega) hij
        | succ s => exact ⟨s, rfl⟩
      subst hs
      obtain ⟨p, z, p1, p2, p3⟩ := chain_prev TR.out (ndM_at HC.out) H1.out (ndM_at hf)
      obtain ⟨q, z', q1, q2, q3⟩ := chain_prev TR.out (ndM_at HD.out) H2.out (ndM_at hg)
      obtain ⟨f', hf', _⟩ := ndM_get p2
      obtain ⟨g', hg', _⟩ := ndM_get q2
      have D1 : Hid (∀ W2, Below wr.heap.size wr W2 → W2.cell? ⟨f.ad, 102, none⟩ = some (.pointer (some ⟨f'.ad, 0, none⟩))) := fun W2 hW2 => by
        have h := (HT.out.cells TR.out hf (HW.out.trans ((BW.out.trans (hW2.mono BW.out.size)).mono HW.out.size))).2.2.1
        rw [p1, cnP_at hf'] at h
        exact h
      have D2 : Hid (∀ W2, Below wr.heap.size wr W2 → W2.cell? ⟨g.ad, 102, none⟩ = some (.pointer (some ⟨g'.ad, 0, none⟩))) := fun W2 hW2 => by
        have h := (HT.out.cells TR.out hg (HW.out.trans ((BW.out.trans (hW2.mono BW.out.size)).mono HW.out.size))).2.2.1
        rw [q1, cnP_at hg'] at h
        exact h
      have F2 := Lib.hid hf'
      have G2 := Lib.hid hg'
      have P3 := Lib.hid p3
      have Q3 := Lib.hid q3
      clear hf hg p1 p2 p3 q1 q2 q3 hf' hg'
      go_upto_region 4 with fail
      clear hq
      refine wp_region_held_drew (S := (fun w' => Below wr.heap.size wr w')) (by kernel_rfl) (Below.drew (Below.refl _ _)) (fun hHeld => ?_)
      generalize hwd : wr.drew = wd at  hHeld ⊢
      clear hwd
      refine held_take (i := 0) (v := (.pointer (some ⟨f.ad, 0, none⟩))) rfl (by kernel_rfl) (by kernel_rfl) (by kernel_rfl) (fun _ _ _ h => h) (Or.inl ⟨by rfl, fun w' _ => by kernel_rfl⟩) hHeld ?_
      go_frame
      refine held_take (i := 1) (v := (.pointer (some ⟨f.ad, 0, none⟩))) rfl (by kernel_rfl) (by kernel_rfl) (by kernel_rfl) (fun _ _ _ h => h) (Or.inl ⟨by rfl, fun w' _ => by kernel_rfl⟩) hHeld ?_
      go_frame
      refine held_take (i := 2) (v := (.pointer (some ⟨f.ad, 102, none⟩))) rfl (by kernel_rfl) (by kernel_rfl) (by kernel_rfl) (fun _ _ _ h => h) (Or.inl ⟨by rfl, fun w' _ => by kernel_rfl⟩) hHeld ?_
      go_frame
      refine held_take (i := 3) (v := (.pointer (some ⟨f'.ad, 0, none⟩))) rfl (by kernel_rfl) (by kernel_rfl) (by kernel_rfl) (fun _ _ _ h => h) (yieldsIf_load_one (by rfl) 70 (.tmp 26) rfl f.ad (102) rfl _ _ (fun w' hw' => D1.out w' hw') Tryz.underlying70 rfl) hHeld ?_
      go_frame
      refine held_take (i := 4) (v := (.pointer (some ⟨g.ad, 0, none⟩))) rfl (by kernel_rfl) (by kernel_rfl) (by kernel_rfl) (fun _ _ _ h => h) (Or.inl ⟨by rfl, fun w' _ => by kernel_rfl⟩) hHeld ?_
      go_frame
      refine held_take (i := 5) (v := (.pointer (some ⟨g.ad, 0, none⟩))) rfl (by kernel_rfl) (by kernel_rfl) (by kernel_rfl) (fun _ _ _ h => h) (Or.inl ⟨by rfl, fun w' _ => by kernel_rfl⟩) hHeld ?_
      go_frame
      refine held_take (i := 6) (v := (.pointer (some ⟨g.ad, 102, none⟩))) rfl (by kernel_rfl) (by kernel_rfl) (by kernel_rfl) (fun _ _ _ h => h) (Or.inl ⟨by rfl, fun w' _ => by kernel_rfl⟩) hHeld ?_
      go_frame
      refine held_take (i := 7) (v := (.pointer (some ⟨g'.ad, 0, none⟩))) rfl (by kernel_rfl) (by kernel_rfl) (by kernel_rfl) (fun _ _ _ h => h) (yieldsIf_load_one (by rfl) 70 (.tmp 30) rfl g.ad (102) rfl _ _ (fun w' hw' => D2.out w' hw') Tryz.underlying70 rfl) hHeld ?_
      go_frame
      refine held_take (i := 8) (v := (.pointer (some ⟨f'.ad, 0, none⟩))) rfl (by kernel_rfl) (by kernel_rfl) (by kernel_rfl) (fun _ _ _ h => h) (Or.inl ⟨by rfl, fun w' _ => by kernel_rfl⟩) hHeld ?_
      go_frame
      refine held_take (i := 9) (v := (.pointer (some ⟨g'.ad, 0, none⟩))) rfl (by kernel_rfl) (by kernel_rfl) (by kernel_rfl) (fun _ _ _ h => h) (Or.inl ⟨by rfl, fun w' _ => by kernel_rfl⟩) hHeld ?_
      go_frame
      refine wpAnyH_done (by kernel_rfl) ?_ _
      have BE := Lib.hid (BW.out.trans (hHeld.mono BW.out.size))
      clear hHeld D1 D2
      go_wp2_with fail
      go_roundg s
      case measure => omega
      case rel =>
        refine ⟨⟨p, q, f', g', F2.out, G2.out, rfl, rfl, P3.out, Q3.out, fun u hu hu1 hu2 => ?_⟩, BE.out⟩
        by_cases hus : u = s + 1
        · subst hus
          rw [H1.out, H2.out]
          exact fun e => hij (by injection e with e; omega)
        · exact H3.out u (by omega) hu1 hu2
def AbInv (M : List CNd) (x : Int) (m : Nat) (W : World) (n : Nat) (vs v : Value) (wr : World) : Prop :=
  ∃ (j : Nat) (g : CNd) (tv : Value), tv = vs ∧ M[j]? = some g ∧ v = .pointer (some ⟨g.ad, 0, none⟩) ∧ (chainT (ndM M) x)[m + n]? = some (j : Int) ∧ HsOwn W.heap.size wr tv (idsT (ndM M) ((upL (ndM M) x).take ((chainT (ndM M) x).length - 1 - (m + n)))) ∧ Below W.heap.size W wr
set_option maxHeartbeats 1000000 in
set_option maxRecDepth 100000 in
theorem ctabove_any (w : World) (base b mb : Nat) (M : List CNd) (x j t : Nat) (c f : CNd) (h : CtAt w base b mb M) (ht : TrL (ndM M)) (hc : M[x]? = some c) (hf : M[j]? = some f) (hj : (chainT (ndM M) (x : Int))[t]? = some (j : Int)) (W : World) (hW : Below w.heap.size w W) :
    Calls Tryz.prog 46 #[.pointer (some ⟨c.ad, 0, none⟩), .pointer (some ⟨f.ad, 0, none⟩)] W fun e w' => ∃ v, e = .returned v ∧ HsOwn W.heap.size w' v (idsT (ndM M) ((upL (ndM M) (x : Int)).take ((chainT (ndM M) (x : Int)).length - 1 - t))) ∧ Below W.heap.size W w' := by
  obtain ⟨i0, hi, hz0, hz1, hz2⟩ := info_parts info_hash
  have HT := Lib.hid h
  have TR := Lib.hid ht
  have HC := Lib.hid hc
  have HF := Lib.hid hf
  have HJ := Lib.hid hj
  have HW := Lib.hid hW
  have CL : Hid (((chainT (ndM M) (x : Int)).length : Int) = c.nd.height + 1 ∧ 0 ≤ c.nd.height ∧ c.nd.height ≤ 4096) := by
    have h1 := ht.ok _ (List.mem_of_getElem? (ndM_at hc))
    exact ⟨chain_length ht (ndM_at hc), h1.2.2.2.2.1, h1.2.2.2.2.2.1⟩
  have ST : Hid ((chainT (ndM M) (x : Int))[t + (c.nd.height.toNat - t)]? = some (x : Int)) := by
    have h1 := anc_self ht (ndM_at hc)
    have h2 := anc_chainAt CL.out.2.1 h1
    have h3 := (List.getElem?_eq_some_iff.1 hj).1
    have := CL.out
    rw [show t + (c.nd.height.toNat - t) = c.nd.height.toNat by omega]
    exact h2
  clear h ht hc hf hj hW
  go_enter Tryz.func46, Tryz.ntmps46
  go_wp2_with fail
  go_loopg [4, 0] (c.nd.height.toNat - t) (fun n vs v wr => AbInv M (x : Int) t W n vs v wr)
  case atStart => exact ⟨x, c, _, rfl, HC.out, rfl, ST.out, by
    have h1 := CL.out
    have h3 := (List.getElem?_eq_some_iff.1 ST.out).1
    have h4 := (List.getElem?_eq_some_iff.1 HJ.out).1
    rw [show (chainT (ndM M) (x : Int)).length - 1 - (t + (c.nd.height.toNat - t)) = 0 by omega]
    exact HsOwn.nil _ _, Below.refl _ _⟩
  case round =>
    clear ST
    obtain ⟨i, g, tv, rfl, hg, rfl, hgc, ho, hb⟩ := hrel
    have GI := Lib.hid hg
    have GC := Lib.hid hgc
    have HO := Lib.hid ho
    have B := Lib.hid hb
    clear hgc ho hb
    by_cases h0 : gk = 0
    · subst h0
      have e : (j : Int) = (i : Int) := by
        have e1 := GC.out
        rw [Nat.add_zero, HJ.out] at e1
        injection e1
      obtain rfl : j = i := by omega
      rw [HF.out] at hg
      obtain rfl : f = g := by injection hg
      clear e GI
      have hq := neq_node_same f.ad wr
      go_wp2_with fail
      go_ret
      exact ⟨_, rfl, HO.out, B.out⟩
    · obtain ⟨n, rfl⟩ : ∃ n, gk = n + 1 := ⟨gk - 1, by omega⟩
      have hij : i ≠ j := fun e => by
        obtain ⟨i1, y1, e1, l1, q1⟩ := chain_ok TR.out (ndM_at HC.out) GC.out
        obtain ⟨i2, y2, e2, l2, q2⟩ := chain_ok TR.out (ndM_at HC.out) HJ.out
        obtain rfl : i1 = i2 := by omega
        rw [l1] at l2
        obtain rfl : y1 = y2 := by injection l2
        omega
      have hT := HT.out.below (HW.out.trans (B.out.mono HW.out.size))
      have hqq := neq_node_other (HT.out.far2 hg HF.out hij) (hT.node _ _ hg) (hT.node _ _ HF.out)
      clear hT
      obtain ⟨p, z, p1, p2, p3⟩ := chain_prev TR.out (ndM_at HC.out) (t := t + n) GC.out (ndM_at hg)
      obtain ⟨q, hq, _⟩ := ndM_get p2
      have okx := TR.out.ok _ (List.mem_of_getElem? (ndM_at hg))
      have CP : Hid (∀ U, Below W.heap.size W U → U.cell? ⟨g.ad, 102, none⟩ = some (.pointer (some ⟨q.ad, 0, none⟩))) := fun U hU => by
        have h := (HT.out.cells TR.out hg (HW.out.trans (hU.mono HW.out.size))).2.2.1
        rw [p1, cnP_at hq] at h
        exact h
      obtain ⟨ix, hix⟩ : ∃ ix, ix = g.nd.id := ⟨_, rfl⟩
      have RI := Lib.hid (HT.out.idr hg (HW.out.trans (B.out.mono HW.out.size)))
      rw [← hix] at RI
      have LX : Hid (ix.length = 32) := by show _ = _; rw [hix]; exact okx.1
      have LI : Hid ((ix.map bV).length = 32) := by show _ = _; rw [List.length_map]; exact LX.out
      have CO : Hid (∀ u ∈ ix.map bV, u.oneCell' = true) := bV_one' _
      have NX : Hid (idsT (ndM M) ((upL (ndM M) (x : Int)).take ((chainT (ndM M) (x : Int)).length - 1 - (t + n))) = idsT (ndM M) ((upL (ndM M) (x : Int)).take ((chainT (ndM M) (x : Int)).length - 1 - (t + (n + 1)))) ++ [ix]) := by
        have hl := (List.getElem?_eq_some_iff.1 GC.out).1
        have e1 : (upL (ndM M) (x : Int))[(chainT (ndM M) (x : Int)).length - 1 - (t + (n + 1))]? = some (i : Int) := by
          rw [up_chain (by omega), ← GC.out]
          congr 1
          omega
        show _ = _
        rw [show (chainT (ndM M) (x : Int)).length - 1 - (t + n) = (chainT (ndM M) (x : Int)).length - 1 - (t + (n + 1)) + 1 by omega, idsT_succ e1, getD_int (ndM_at hg), hix]
      obtain ⟨lst, hlst⟩ : ∃ lst, lst = idsT (ndM M) ((upL (ndM M) (x : Int)).take ((chainT (ndM M) (x : Int)).length - 1 - (t + (n + 1)))) := ⟨_, rfl⟩
      have DL : Hid (lst.length ≤ 4096) := by
        have := CL.out
        show _ ≤ _
        rw [hlst]
        unfold idsT
        rw [List.length_map, List.length_take]
        omega
      rw [← hlst] at HO NX
      obtain ⟨ci, hci⟩ : ∃ ci, ci = ix.map bV := ⟨_, rfl⟩
      rw [← hci] at RI LI CO
      have CIE := Lib.hid hci
      have QM := Lib.hid hq
      have P3 := Lib.hid p3
      clear hg hij p1 p2 p3 hq okx hix hci hlst h0
      go_wp2_with (first | ((with_reducible show wpList _ _ _ _ _ _); first | (refine wpList_load_mid rfl 25 (.tmp 15) rfl g.ad 0 rfl ci _ RI.out Tryz.underlying25 rfl (by rw [LI.out]; kernel_rfl) ?_; go_frame) | (refine wpList_slice_one rfl 42 25 (.tmp 16) rfl ci rfl Tryz.underlying42 i0 _ hi hz0 (by rw [hz1, LI.out]) (by rw [LI.out]; omega) (by rw [LI.out]; omega) ?_; have nf := heap_alloc_new wr (.cells (ci).toArray 25 (0, 0)); have bb := (Below.refl wr.heap.size wr).alloc (Nat.le_refl _) (.cells (ci).toArray 25 (0, 0)); obtain ⟨gn, hgn⟩ : ∃ g, g = wr.heap.size := ⟨_, rfl⟩; generalize hq : World.alloc _ _ = w2; have e2 : wr.alloc (.cells (ci).toArray 25 (0, 0)) = w2 := hq; rw [e2] at nf bb; rw [← hgn] at nf ⊢; have NF := Lib.hid nf; have HO2 := Lib.hid (HO.out.keep bb); have B2 := Lib.hid (B.out.trans (bb.mono B.out.size)); clear nf bb hq e2 hgn; go_frame)) | (at_builtin; refine wpList_append_own_at _ rfl _ _ 42 rfl W.heap.size 25 i0 (.agg (List.replicate 32 (bV 0)).toArray) 32 32 Tryz.underlying42 hi hz0 hz1 hz2 (by kernel_rfl) (by decide) tv _ (hsL lst) rfl HO2.out.1 ⟨gn, 0, none⟩ 1 1 ci rfl (by rw [LI.out]) (fun j u hj => by rw [Addr.add_mid]; exact range_of_box NF.out j u hj) CO.out (by have := DL.out; unfold maxLen; omega) (by have := DL.out; omega) B2.out.size ?_; intro v3 w3 q1 q2 _ q4; have HO3 : Hid (HsOwn W.heap.size w3 v3 (lst ++ [ix])) := HsOwn.push HO2.out.2 LX.out (by rw [← CIE.out]; exact q1); have B3 := Lib.hid (own_grown B2.out (Nat.le_refl _) B2.out.size HO2.out.1 q2); have c102 := CP.out _ B3.out; clear q1 q2 q4; go_frame))
      go_roundg n
      case measure => omega
      case rel => exact ⟨p, q, _, rfl, QM.out, rfl, P3.out, by rw [NX.out]; exact HO3.out, B3.out⟩
end Go.Proofs.YtbgagaaoldjhnaaGreatDoor.Sha

/-
  Rows of transactions, and blocks, as the model has them: four cells each behind a slice; a header's cells and a slice. No conditions.
-/
namespace Go.Proofs.YtbgagaaoldjhnaaGreatDoor.Sha
open Go Go.RowKit
/-- A transaction stands in block b from o on. -/
def TxIn (w : World) (b o : Nat) (t : TTx) : Prop := TxOk t ∧ ∃ iv ov, w.rangeAt b o (txL t iv ov) ∧ InsAt w iv t.ins ∧ OutsAt w ov t.outs
theorem TxIn.below {w w' : World} {b o : Nat} {t : TTx} (h : TxIn w b o t) (hb : Below w.heap.size w w') : TxIn w' b o t := by
  obtain ⟨h0, iv, ov, h1, h2, h3⟩ := h
  exact ⟨h0, iv, ov, range_below h1 hb, h2.below hb, h3.below hb⟩
/-- A row of transactions behind a slice. -/
def TxsAt (w : World) (v : Value) (l : List TTx) : Prop :=
  ∃ sp cap, v = .slice sp l.length cap ∧ l.length ≤ cap ∧ (0 < l.length → ∃ b o, sp = some ⟨b, o, none⟩ ∧ ∀ i t, l[i]? = some t → TxIn w b (o + i * 4) t)
theorem TxsAt.below {w w' : World} {v : Value} {l : List TTx} (h : TxsAt w v l) (hb : Below w.heap.size w w') : TxsAt w' v l := by
  obtain ⟨sp, cap, h1, h2, h3⟩ := h
  refine ⟨sp, cap, h1, h2, fun h0 => ?_⟩
  obtain ⟨b, o, h4, h5⟩ := h3 h0
  exact ⟨b, o, h4, fun i x hx => (h5 i x hx).below hb⟩
theorem TxsAt.nil (w : World) (sp : Option Addr) (cap : Nat) : TxsAt w (.slice sp 0 cap) [] := ⟨sp, cap, rfl, Nat.zero_le _, fun h => absurd h (by simp)⟩
theorem TxsAt.shape {w : World} {v : Value} {l : List TTx} (h : TxsAt w v l) : ∃ sp cap, v = .slice sp l.length cap := by
  obtain ⟨sp, cap, h1, _⟩ := h
  exact ⟨sp, cap, h1⟩
theorem TxsAt.len {w : World} {sp : Option Addr} {n cap : Nat} {l : List TTx} (h : TxsAt w (.slice sp n cap) l) : n = l.length ∧ n ≤ cap := by
  obtain ⟨sp', cap', h1, h2, _⟩ := h
  cases h1
  exact ⟨rfl, h2⟩
/-- One of them, by its place. -/
theorem TxsAt.get {w : World} {sp : Option Addr} {n cap : Nat} {l : List TTx} (h : TxsAt w (.slice sp n cap) l) (h0 : 0 < n) :
    ∃ b o, sp = some ⟨b, o, none⟩ ∧ b < w.heap.size ∧ ∀ i t, l[i]? = some t → ∃ iv ov, w.rangeAt b (o + i * 4) (txL t iv ov) ∧ TxAt w (.agg (txL t iv ov).toArray) t := by
  obtain ⟨sp', cap', h1, h2, h3⟩ := h
  cases h1
  obtain ⟨b, o, rfl, h5⟩ := h3 h0
  refine ⟨b, o, rfl, ?_, fun i t ht => ?_⟩
  · obtain ⟨_, iv, ov, h6, _⟩ := h5 0 (l[0]) (List.getElem?_eq_getElem h0)
    exact World.block_lt_of_cell? w _ (h6 0 _ rfl)
  · obtain ⟨a, iv, ov, h6, h7, h8⟩ := h5 i t ht
    exact ⟨iv, ov, h6, a, iv, ov, rfl, h7, h8⟩
/-- A block: a header, and transactions. -/
structure TBlk where
  head : THd
  txs : List TTx
/-- A block's cells. -/
def blL (h : THd) (tv : Value) : List Value := hdL h ++ [tv]
theorem blL_size {h : THd} (hh : HdOk h) (tv : Value) : (blL h tv).toArray.size = 69 := by simp [blL, hdL_length hh]
/-- A block by value. -/
def BlkAt (w : World) (v : Value) (x : TBlk) : Prop := HdOk x.head ∧ ∃ tv, v = .agg (blL x.head tv).toArray ∧ TxsAt w tv x.txs
theorem BlkAt.below {w w' : World} {v : Value} {x : TBlk} (h : BlkAt w v x) (hb : Below w.heap.size w w') : BlkAt w' v x := by
  obtain ⟨h0, tv, h1, h2⟩ := h
  exact ⟨h0, tv, h1, h2.below hb⟩
/-- A block in a box. -/
structure BlBox (w : World) (g : Nat) (h : THd) (tv : Value) : Prop where
  row : w.heap[g]? = some (.cells (blL h tv).toArray 68 (0, 0))
theorem BlBox.below {w w' : World} {g : Nat} {h : THd} {tv : Value} (k : BlBox w g h tv) (hb : Below w.heap.size w w') : BlBox w' g h tv := ⟨row_below k.row hb⟩
theorem BlBox.range {w : World} {g : Nat} {h : THd} {tv : Value} (k : BlBox w g h tv) : w.rangeAt g 0 (blL h tv) := fun j v hj => by
  rw [Nat.zero_add, cell_of_row _ _ _ _ _ _ k.row]
  simpa using hj
theorem BlBox.lt {w : World} {g : Nat} {h : THd} {tv : Value} (k : BlBox w g h tv) : g < w.heap.size := (Array.getElem?_eq_some_iff.1 k.row).1
/-- The header's cells in a block's box. -/
theorem BlBox.head {w : World} {g : Nat} {h : THd} {tv : Value} (k : BlBox w g h tv) : w.rangeAt g 0 (hdL h) := fun j v hj => k.range j v (by
  rw [blL, List.getElem?_append_left (List.getElem?_eq_some_iff.1 hj).1]
  exact hj)
theorem BlBox.root {w : World} {g : Nat} {h : THd} {tv : Value} (k : BlBox w g h tv) (hh : HdOk h) : w.rangeAt g 33 (h.root.map bV) := by
  have := hd_root hh k.head
  rwa [Nat.zero_add] at this
theorem BlBox.txs {w : World} {g : Nat} {h : THd} {tv : Value} (k : BlBox w g h tv) (hh : HdOk h) : w.cell? ⟨g, 68, none⟩ = some tv := by
  have := k.range 68 tv (by rw [blL, List.getElem?_append_right (by rw [hdL_length hh]; exact Nat.le_refl _), hdL_length hh]; rfl)
  rwa [Nat.zero_add] at this
theorem blL_one {h : THd} {tv : Value} (ht : tv.oneCell' = true) : (blL h tv).toArray.all (·.oneCell') = true := by
  rw [Array.all_eq_true_iff_forall_mem]
  intro u hu
  rw [List.mem_toArray, blL, List.mem_append, List.mem_singleton] at hu
  rcases hu with hu | rfl
  · exact hdL_one' h u hu
  · exact ht
theorem TxsAt.one {w : World} {tv : Value} {l : List TTx} (h : TxsAt w tv l) : tv.oneCell' = true := by
  obtain ⟨sp, cap, rfl, _⟩ := h
  rfl
end Go.Proofs.YtbgagaaoldjhnaaGreatDoor.Sha

/-
  A store into a header's box turns just that part. Conditions: digests of 32 bytes.
-/
namespace Go.Proofs.YtbgagaaoldjhnaaGreatDoor.Sha
open Go Go.RowKit
/-- The header of zeros. -/
def hdZ : THd := ⟨0, List.replicate 32 0, List.replicate 32 0, 0, 0, 0⟩
theorem HdBox.far {w w' : World} {g q : Nat} {h : THd} (k : HdBox w g h) (hg : w.grownBy w' (some q)) (hq : q ≠ g) : HdBox w' g h := ⟨row_far k.row hg (fun e => hq (Option.some.inj e))⟩
section
variable {ops : Array Oper} {rest : List Oper} {op : Oper} {a : Act} {w : World} {Q : Exit → Act → World → Prop} {g : Nat} {h : THd}
end
end Go.Proofs.YtbgagaaoldjhnaaGreatDoor.Sha

/-
  Stores into one part of a block's box; the zero block; one transaction in a row. No conditions beyond those that each states.
-/
namespace Go.Proofs.YtbgagaaoldjhnaaGreatDoor.Sha
open Go Go.RowKit
theorem info_txc : (Tryz.prog.info? 105).map (fun i => (i.zero, i.size, i.bytes)) = some (some (.agg [nV 0, .slice none 0 0, .slice none 0 0, nV 0].toArray), 4, 64) := by kernel_rfl
section
variable {ops : Array Oper} {rest : List Oper} {op : Oper} {a : Act} {w : World} {Q : Exit → Act → World → Prop} {g : Nat} {h : THd} {tv : Value}
theorem st_blroot (hgd : op.guard = none) (x y : Operand) (ho : op.op = .store 25 x y) (hx : a.eval x = .pointer (some ⟨g, 33, none⟩)) (p : List UInt8) (hp : p.length = 32) (hy : a.eval y = .agg (p.map bV).toArray) (hh : HdOk h) (k : BlBox w g h tv)
    (hK : ∀ w', BlBox w' g { h with root := p } tv → w.grownBy w' (some g) → wpList Tryz.prog ops Q rest (a.put op.dst undef) w') : wpList Tryz.prog ops Q (op :: rest) a w := by
  refine wpList_store_part hgd 25 x y ho g 33 (nV h.ver :: h.prev.map bV) (h.root.map bV) [nV h.time, nV h.work, nV h.nonce, tv] (p.map bV) 68 (.agg (p.map bV).toArray) hx hy rfl (by simp [hh.2.1]) (by simp [hp, hh.2.2.1]) (by rw [k.row]; simp [blL, hdL]) (by rw [List.length_map, hp]; kernel_rfl) (bV_one' p) ?_
  intro w' q1 q2
  exact hK w' ⟨by rw [q1]; simp [blL, hdL]⟩ q2
end
theorem BlBox.far {w w' : World} {g : Nat} {h : THd} {tv : Value} {q : Option Nat} (k : BlBox w g h tv) (hg : w.grownBy w' q) (hq : q ≠ some g) : BlBox w' g h tv := ⟨row_far k.row hg hq⟩
/-- A row of one. -/
theorem txsAt_one {w : World} {g : Nat} {t : TTx} {iv ov : Value} {fr : Nat × Nat} (h : w.heap[g]? = some (.cells (txL t iv ov).toArray 105 fr)) (ht : TxAt w (.agg (txL t iv ov).toArray) t) : TxsAt w (.slice (some ⟨g, 0, none⟩) 1 1) [t] := by
  obtain ⟨h0, iv', ov', e, h1, h2⟩ := ht
  have e : txL t iv ov = txL t iv' ov' := by simpa using e
  refine ⟨_, _, rfl, Nat.le_refl _, fun _ => ⟨g, 0, rfl, fun i u hu => ?_⟩⟩
  obtain ⟨rfl, rfl⟩ : i = 0 ∧ t = u := by
    cases i with
    | zero => exact ⟨rfl, by simpa using hu⟩
    | succ i => simp at hu
  refine ⟨h0, iv', ov', fun j v hj => ?_, h1, h2⟩
  rw [cell_of_row _ _ _ _ _ _ h, List.getElem?_toArray, e]
  simpa using hj
end Go.Proofs.YtbgagaaoldjhnaaGreatDoor.Sha

/-
  Package tx reads a transaction out of bytes. Nothing that was there turns. Conditions: the bytes lie where the slice says; the errors are there.
-/
namespace Go.Proofs.YtbgagaaoldjhnaaGreatDoor.Sha
open Go Go.RowKit
/-- What a Reader's bytes are as a transaction. -/
structure TakeIs (bs : List UInt8) (t : TTx) (b : List UInt8) (d : Nat) : Prop where
  eq : takeTx bs 0 = (t, b, d)
end Go.Proofs.YtbgagaaoldjhnaaGreatDoor.Sha

/-
  A whole box written, the new world hidden; what a loop that climbs keeps. No conditions.
-/
namespace Go.Proofs.YtbgagaaoldjhnaaGreatDoor.Sha
open Go Go.RowKit
/-- Where the leaf, the answer lie. -/
structure ClAt (w : World) (g : Nat) (lf : List UInt8) (wr : World) : Prop where
  leaf : wr.heap[g]? = some (.cells (lf.map bV).toArray 25 (0, 0))
  zero : wr.heap[g + 1]? = some (.cells (zM.map bV).toArray 25 (0, 0))
  low : Below w.heap.size w wr
  lo : w.heap.size ≤ g
theorem ClAt.below {w : World} {g : Nat} {lf : List UInt8} {wr w' : World} (h : ClAt w g lf wr) (hb : Below wr.heap.size wr w') : ClAt w g lf w' :=
  ⟨row_below h.leaf hb, row_below h.zero hb, h.low.trans (hb.mono h.low.size), h.lo⟩
end Go.Proofs.YtbgagaaoldjhnaaGreatDoor.Sha

/-
  Package block makes the first transaction of a block. New memory; nothing that was there turns. Condition: the bytes that are added lie where the slice says.
-/
namespace Go.Proofs.YtbgagaaoldjhnaaGreatDoor.Sha
open Go Go.RowKit
theorem built_outl (v : Nat) (l : List UInt8) (hl : l.length = 32) : Tryz.prog.built 132 [(0, .int .u64 (v : Int)), (1, .agg (l.map bV).toArray)] = some (outL ⟨v, l⟩).toArray := by
  have hz : ∀ parts, Tryz.prog.built 132 parts = Instr.fill ([(0, 1), (1, 32)].toArray[·]?) (uV 0 :: List.replicate 32 (bV 0)).toArray parts := fun parts => by kernel_rfl
  have hm : (l.map bV).length = 32 := by simp [hl]
  rw [hz, fill_part _ 0 0 (.int .u64 (v : Int)) [uV v] _ _ rfl rfl (by simp), fill_part _ 1 1 (.agg (l.map bV).toArray) (l.map bV) _ _ rfl (by rw [hm]; rfl) (by rw [hm]; simp)]
  have e : ∀ A : List Value, A.length ≤ 33 → A.drop (1 + (l.map bV).length) = [] := fun A hA => List.drop_of_length_le (by rw [hm]; omega)
  rw [e _ (by simp), List.append_nil]
  rfl
/-- The first transaction of a block. -/
def firstX (h32 : Nat) (ex : List UInt8) : TIn := ⟨zH, 4294967295, leB h32 4 ++ ex, 4294967295⟩
def firstT (h32 val : Nat) (lock ex : List UInt8) : TTx := ⟨1, [firstX h32 ex], [⟨val, lock⟩], 0⟩
theorem firstX_ok {h32 : Nat} (ex : List UInt8) (_ : h32 ≤ 4294967295) : InOk (firstX h32 ex) := ⟨zH_length, by show 4294967295 ≤ _; omega, by show 4294967295 ≤ _; omega⟩
end Go.Proofs.YtbgagaaoldjhnaaGreatDoor.Sha

/-
  Plain mathematics of a block's bytes: what was written is read again; cut off it ends too early; longer it is none; what is read has just these bytes. No conditions beyond those that each states.
-/
namespace Go.Proofs.YtbgagaaoldjhnaaGreatDoor.Sha
open Go Go.RowKit
def txsB (l : List TTx) : List UInt8 := l.flatMap txB
def blkB (x : TBlk) : List UInt8 := hdB x.head ++ putL x.txs.length ++ txsB x.txs
theorem txsB_cons (t : TTx) (l : List TTx) : txsB (t :: l) = txB t ++ txsB l := rfl
section
variable {α : Type} {z a : α} {p : Par α} {x : List UInt8}
end
end Go.Proofs.YtbgagaaoldjhnaaGreatDoor.Sha

/-
  What of a block is small enough for the walks. No conditions.
-/
namespace Go.Proofs.YtbgagaaoldjhnaaGreatDoor.Sha
open Go Go.RowKit
/-- A block of a few transactions, each of a few inputs and outputs. -/
def BlkSmall (x : TBlk) : Prop := (∀ t ∈ x.txs, TxSmall t) ∧ x.txs.length ≤ 1000
theorem txB_le {t : TTx} (h : TxSmall t) : (txB t).length ≤ 200100000 := by
  have h1 := h.bytes
  have h2 := h.ins0
  have h3 := h.2.2.1
  have h4 := lenN_bd t.ins.length
  have h5 := lenN_bd t.outs.length
  omega
theorem txsB_le : ∀ (l : List TTx), (∀ t ∈ l, TxSmall t) → (txsB l).length ≤ 200100000 * l.length
  | [], _ => by simp [txsB]
  | t :: l, h => by
    have ih := txsB_le l (fun u hu => h u (List.mem_cons_of_mem _ hu))
    have h1 := txB_le (h t List.mem_cons_self)
    rw [txsB_cons, List.length_append, List.length_cons]
    omega
theorem BlkSmall.txs {x : TBlk} (h : BlkSmall x) : (txsB x.txs).length ≤ 200100000000 := by
  have h1 := txsB_le x.txs h.1
  have h2 := h.2
  omega
theorem blkB_len {x : TBlk} (hh : HdOk x.head) : (blkB x).length = 80 + lenN x.txs.length + (txsB x.txs).length := by
  simp only [blkB, List.length_append, hdB_length hh, putL_length]
theorem BlkSmall.len {x : TBlk} (h : BlkSmall x) (hh : HdOk x.head) : (blkB x).length ≤ 200200000000 := by
  have h1 := h.txs
  have h2 := lenN_bd x.txs.length
  rw [blkB_len hh]
  omega
end Go.Proofs.YtbgagaaoldjhnaaGreatDoor.Sha

/-
  Package head writes a header down, in new memory. Nothing that was there turns. Condition: digests of 32 bytes, numbers of 32 bits.
-/
namespace Go.Proofs.YtbgagaaoldjhnaaGreatDoor.Sha
open Go Go.RowKit
set_option maxHeartbeats 1000000 in
set_option maxRecDepth 100000 in
theorem hdbytes_any (h : THd) (hh : HdOk h) (w : World) :
    Calls Tryz.prog 53 #[.agg (hdL h).toArray] w fun e w' => ∃ v, e = .returned v ∧ CopyB w w' v (hdB h) := by
  obtain ⟨i0, hi, hz0, hz1, hz2⟩ := info_parts info_u8
  have HH := Lib.hid hh
  obtain ⟨cs, hcs⟩ : ∃ cs, cs = hdL h := ⟨_, rfl⟩
  rw [← hcs]
  have CS := Lib.hid hcs
  obtain ⟨vv, hvv⟩ : ∃ n, n = h.ver := ⟨_, rfl⟩
  obtain ⟨vt, hvt⟩ : ∃ n, n = h.time := ⟨_, rfl⟩
  obtain ⟨vw, hvw⟩ : ∃ n, n = h.work := ⟨_, rfl⟩
  obtain ⟨vn, hvn⟩ : ∃ n, n = h.nonce := ⟨_, rfl⟩
  have BV : Hid (vv ≤ 4294967295) := by show _ ≤ _; rw [hvv]; exact hh.1
  have BT : Hid (vt ≤ 4294967295) := by show _ ≤ _; rw [hvt]; exact hh.2.2.2.1
  have BW : Hid (vw ≤ 4294967295) := by show _ ≤ _; rw [hvw]; exact hh.2.2.2.2.1
  have BN : Hid (vn ≤ 4294967295) := by show _ ≤ _; rw [hvn]; exact hh.2.2.2.2.2
  have EE : Hid (hdB h = leB vv 4 ++ h.prev ++ h.root ++ leB vt 4 ++ leB vw 4 ++ leB vn 4) := by show _ = _; rw [hvv, hvt, hvw, hvn]; rfl
  have LP : Hid (h.prev.length = 32) := hh.2.1
  have LR : Hid (h.root.length = 32) := hh.2.2.1
  have VV := Lib.hid hvv
  have VT := Lib.hid hvt
  have VW := Lib.hid hvw
  have VN := Lib.hid hvn
  clear hcs hh hvv hvt hvw hvn
  go_enter Tryz.func53, Tryz.ntmps53
  go_upto_region 1 with fail
  have F0 := heap_alloc_new w (.cells cs.toArray 27 (0, 0))
  have B0 := Lib.hid ((Below.refl w.heap.size w).alloc (Nat.le_refl _) (.cells cs.toArray 27 (0, 0)))
  generalize hw1 : World.alloc _ _ = w1
  have e1 : w.alloc (.cells cs.toArray 27 (0, 0)) = w1 := hw1
  rw [e1] at F0 B0
  rw [CS.out] at F0
  have K : HdBox w1 w.heap.size h := ⟨F0⟩
  have K := Lib.hid K
  clear hw1 e1 F0
  have C0 : Hid (∀ w', Below w1.heap.size w1 w' → w'.cell? ⟨w.heap.size, 0, none⟩ = some (.int .u32 (vv : Int))) := fun w' hw' => by rw [VV.out]; exact ((K.out.below hw').cells HH.out).1
  have C65 : Hid (∀ w', Below w1.heap.size w1 w' → w'.cell? ⟨w.heap.size, 65, none⟩ = some (.int .u32 (vt : Int))) := fun w' hw' => by rw [VT.out]; exact ((K.out.below hw').cells HH.out).2.1
  have C66 : Hid (∀ w', Below w1.heap.size w1 w' → w'.cell? ⟨w.heap.size, 66, none⟩ = some (.int .u32 (vw : Int))) := fun w' hw' => by rw [VW.out]; exact ((K.out.below hw').cells HH.out).2.2.1
  have C67 : Hid (∀ w', Below w1.heap.size w1 w' → w'.cell? ⟨w.heap.size, 67, none⟩ = some (.int .u32 (vn : Int))) := fun w' hw' => by rw [VN.out]; exact ((K.out.below hw').cells HH.out).2.2.2
  have SP : Hid (∀ w', Below w1.heap.size w1 w' → SrcB w' (.slice (some ⟨w.heap.size, 1, none⟩) 32 32) h.prev) := fun w' hw' => src_range (K.out.below hw').prev LP.out.symm (by omega) (Nat.le_refl _)
  have SR : Hid (∀ w', Below w1.heap.size w1 w' → SrcB w' (.slice (some ⟨w.heap.size, 33, none⟩) 32 32) h.root) := fun w' hw' => src_range ((K.out.below hw').root HH.out) LR.out.symm (by omega) (Nat.le_refl _)
  go_upto_region 2 with (at_make; refine wpList_make_own _ rfl _ _ 89 rfl w1.heap.size 5 i0 (.int .u8 0) 1 Tryz.underlying89 hi hz0 hz1 _ _ _ 80 rfl rfl (by omega) (by rw [hz2]; omega) (by unfold maxLen; omega) (Nat.le_refl _) ?_; intro w3 hown hgrow; have C3 : Hid (CopyB w1 w3 (.slice (some ⟨w1.heap.size, 0, none⟩) 0 80) []) := (⟨hown, below_made hgrow⟩ : CopyB w1 w3 (.slice (some ⟨w1.heap.size, 0, none⟩) 0 80) []); clear hown hgrow; go_frame)
  have c0 := C0.out w3 C3.out.2
  go_wp2_with fail
  refine (four_new [] _ vv w3 (nil_src _) (by simp) BV.out).mono ?_
  rintro e w4 ⟨s4, n4, c4, rfl, hn4, hc4⟩
  have P4 := Lib.hid hc4
  have C4 := Lib.hid (C3.out.keep hc4.2)
  clear hn4 hc4 c0 C3
  rw [List.nil_append] at P4
  go_upto_region 3 with ((with_reducible show wpList _ _ _ _ _ _); refine wpList_append_g _ rfl (.tmp 5) (.tmp 8) 89 rfl w1.heap.size 5 i0 Tryz.underlying89 hi hz0 hz1 hz2 _ _ _ (by rfl) C4.out.1 (.slice s4 n4 c4) (leB vv 4) (by rfl) P4.out.src (by simp only [leB_length, List.length_nil]; omega) C4.out.2.size ?_; intro v5 w5 a1 a2 a3; have C5 := Lib.hid (C4.out.app a1 a2); clear a1 a2 a3; go_frame)
  obtain ⟨A5, hA5⟩ : ∃ A, A = leB vv 4 := ⟨_, rfl⟩
  rw [List.nil_append, ← hA5] at C5
  have LA5 : Hid (A5.length = 4) := by show _ = _; rw [hA5, leB_length]
  have HA5 := Lib.hid hA5
  clear hA5 P4 C4
  go_upto_region 4 with ((with_reducible show wpList _ _ _ _ _ _); refine wpList_append_g _ rfl (.tmp 10) (.tmp 12) 89 rfl w1.heap.size 5 i0 Tryz.underlying89 hi hz0 hz1 hz2 _ _ _ (by rfl) C5.out.1 (.slice (some ⟨w.heap.size, 1, none⟩) 32 32) h.prev (by rfl) (SP.out _ C5.out.2) (by rw [LA5.out, LP.out]; omega) C5.out.2.size ?_; intro v6 w6 a1 a2 a3; have C6 := Lib.hid (C5.out.app a1 a2); clear a1 a2 a3; go_frame)
  have LA6 : Hid ((A5 ++ h.prev).length = 36) := by show _ = _; rw [List.length_append, LA5.out, LP.out]
  clear C5 LA5
  go_upto_region 5 with ((with_reducible show wpList _ _ _ _ _ _); refine wpList_append_g _ rfl (.tmp 14) (.tmp 16) 89 rfl w1.heap.size 5 i0 Tryz.underlying89 hi hz0 hz1 hz2 _ _ _ (by rfl) C6.out.1 (.slice (some ⟨w.heap.size, 33, none⟩) 32 32) h.root (by rfl) (SR.out _ C6.out.2) (by rw [LA6.out, LR.out]; omega) C6.out.2.size ?_; intro v7 w7 a1 a2 a3; have C7 := Lib.hid (C6.out.app a1 a2); clear a1 a2 a3; go_frame)
  have LA7 : Hid ((A5 ++ h.prev ++ h.root).length = 68) := by show _ = _; rw [List.length_append, LA6.out, LR.out]
  clear C6 LA6
  have c65 := C65.out w7 C7.out.2
  go_wp2_with fail
  refine (four_new [] _ vt w7 (nil_src _) (by simp) BT.out).mono ?_
  rintro e w8 ⟨s8, n8, c8, rfl, hn8, hc8⟩
  have P8 := Lib.hid hc8
  have C8 := Lib.hid (C7.out.keep hc8.2)
  clear hn8 hc8 c65 C7
  rw [List.nil_append] at P8
  go_upto_region 6 with ((with_reducible show wpList _ _ _ _ _ _); refine wpList_append_g _ rfl (.tmp 18) (.tmp 21) 89 rfl w1.heap.size 5 i0 Tryz.underlying89 hi hz0 hz1 hz2 _ _ _ (by rfl) C8.out.1 (.slice s8 n8 c8) (leB vt 4) (by rfl) P8.out.src (by rw [LA7.out, leB_length]; omega) C8.out.2.size ?_; intro v9 w9 a1 a2 a3; have C9 := Lib.hid (C8.out.app a1 a2); clear a1 a2 a3; go_frame)
  have LA9 : Hid ((A5 ++ h.prev ++ h.root ++ leB vt 4).length = 72) := by show _ = _; rw [List.length_append, LA7.out, leB_length]
  clear P8 C8 LA7
  have c66 := C66.out w9 C9.out.2
  go_wp2_with fail
  refine (four_new [] _ vw w9 (nil_src _) (by simp) BW.out).mono ?_
  rintro e w10 ⟨s10, n10, c10, rfl, hn10, hc10⟩
  have P10 := Lib.hid hc10
  have C10 := Lib.hid (C9.out.keep hc10.2)
  clear hn10 hc10 c66 C9
  rw [List.nil_append] at P10
  go_upto_region 7 with ((with_reducible show wpList _ _ _ _ _ _); refine wpList_append_g _ rfl (.tmp 23) (.tmp 26) 89 rfl w1.heap.size 5 i0 Tryz.underlying89 hi hz0 hz1 hz2 _ _ _ (by rfl) C10.out.1 (.slice s10 n10 c10) (leB vw 4) (by rfl) P10.out.src (by rw [LA9.out, leB_length]; omega) C10.out.2.size ?_; intro v11 w11 a1 a2 a3; have C11 := Lib.hid (C10.out.app a1 a2); clear a1 a2 a3; go_frame)
  have LA11 : Hid ((A5 ++ h.prev ++ h.root ++ leB vt 4 ++ leB vw 4).length = 76) := by show _ = _; rw [List.length_append, LA9.out, leB_length]
  clear P10 C10 LA9
  have c67 := C67.out w11 C11.out.2
  go_wp2_with fail
  refine (four_new [] _ vn w11 (nil_src _) (by simp) BN.out).mono ?_
  rintro e w12 ⟨s12, n12, c12, rfl, hn12, hc12⟩
  have P12 := Lib.hid hc12
  have C12 := Lib.hid (C11.out.keep hc12.2)
  clear hn12 hc12 c67 C11
  rw [List.nil_append] at P12
  go_wp2_with ((with_reducible show wpList _ _ _ _ _ _); refine wpList_append_g _ rfl (.tmp 28) (.tmp 31) 89 rfl w1.heap.size 5 i0 Tryz.underlying89 hi hz0 hz1 hz2 _ _ _ (by rfl) C12.out.1 (.slice s12 n12 c12) (leB vn 4) (by rfl) P12.out.src (by rw [LA11.out, leB_length]; omega) C12.out.2.size ?_; intro v13 w13 a1 a2 a3; have C13 := Lib.hid (C12.out.app a1 a2); clear a1 a2 a3; go_frame)
  go_ret
  refine ⟨_, rfl, ?_⟩
  rw [EE.out, ← HA5.out]
  exact C13.out.start B0.out
end Go.Proofs.YtbgagaaoldjhnaaGreatDoor.Sha

/-
  Package head answers the digest that a header goes by. Nothing that was there turns. Conditions: a header of digests of 32 bytes, the table is there.
-/
namespace Go.Proofs.YtbgagaaoldjhnaaGreatDoor.Sha
open Go Go.RowKit
set_option maxHeartbeats 1000000 in
set_option maxRecDepth 100000 in
theorem id_hd (h : THd) (hh : HdOk h) (w : World) (hk : KTab w) :
    Calls Tryz.prog 32 #[.agg (hdL h).toArray] w fun e w' => e = .returned (.agg ((hdId h).map bV).toArray) ∧ Below w.heap.size w w' := by
  have HH := Lib.hid hh
  have HK := Lib.hid hk
  have HOne := Lib.hid (bV_one (hdId h))
  have HLen : Hid ((((hdId h).map bV).toArray).size = 32) := by show _ = _; simp [hdId_length]
  obtain ⟨dg, hdg⟩ : ∃ dg, dg = ((hdId h).map bV).toArray := ⟨_, rfl⟩
  rw [← hdg] at HOne HLen ⊢
  have HD := Lib.hid hdg
  obtain ⟨l0, hl0⟩ : ∃ l, l = hdL h := ⟨_, rfl⟩
  have LN0 : Hid (l0.length = 68) := by show _ = _; rw [hl0]; exact hdL_length hh
  have BY : Hid (∀ W, Calls Tryz.prog 53 #[.agg l0.toArray] W fun e w' => ∃ v, e = .returned v ∧ CopyB W w' v (hdB h)) := fun W => by rw [hl0]; exact hdbytes_any h HH.out W
  rw [← hl0]
  clear hdg hk hh hl0
  go_enter Tryz.func32, Tryz.ntmps32
  go_upto_region 1 with fail
  have f1 := row_below (heap_alloc_new w (.cells l0.toArray 27 (0, 0))) ((Below.refl _ _).alloc (Nat.le_refl _) (.cells (List.replicate 32 (bV 0)).toArray 25))
  have f2 := heap_alloc_new (w.alloc (.cells l0.toArray 27 (0, 0))) (.cells (List.replicate 32 (bV 0)).toArray 25)
  have b1 := ((Below.refl w.heap.size w).alloc (Nat.le_refl _) (.cells l0.toArray 27 (0, 0))).alloc (by simp) (.cells (List.replicate 32 (bV 0)).toArray 25)
  rw [World.size_alloc] at f2
  generalize hw1 : World.alloc _ _ = w1
  have e1 : (w.alloc (.cells l0.toArray 27 (0, 0))).alloc (.cells (List.replicate 32 (bV 0)).toArray 25) = w1 := hw1
  rw [e1] at f1 f2 b1
  have F1 := Lib.hid f1
  have F2 := Lib.hid f2
  have B1 := Lib.hid b1
  clear f1 f2 b1 hw1 e1
  go_wp2_with ((with_reducible show wpList _ _ _ _ _ _); refine wpList_load_row rfl 27 (.tmp 1) rfl w.heap.size rfl 27 l0.toArray (0, 0) _ F1.out Tryz.underlying27 rfl (by show _ = some l0.length; rw [LN0.out] <;> kernel_rfl) ?_; go_frame)
  refine (BY.out w1).mono ?_
  rintro e w2 ⟨v2, rfl, hc⟩
  have S2 := Lib.hid hc.src
  have B2 := Lib.hid (B1.out.trans (hc.2.mono B1.out.size))
  have F2 := Lib.hid (row_below F2.out hc.2)
  have HLn : Hid ((hdB h).length ≤ 576460752303423487) := by show _ ≤ _; rw [hdB_length HH.out]; omega
  clear hc
  go_wp2_with fail
  have TW := twice_any (hdB h) v2 w2 (HK.out.below B2.out) S2.out HLn.out
  change Calls _ _ _ _ (fun e w' => e = .returned (.agg ((hdId h).map bV).toArray) ∧ Below w2.heap.size w2 w') at TW
  rw [← HD.out] at TW
  refine TW.mono ?_
  rintro e w3 ⟨rfl, hb3⟩
  clear TW
  have B3 := Lib.hid (B2.out.trans (hb3.mono B2.out.size))
  have F3 := Lib.hid (row_below F2.out hb3)
  clear hb3
  go_wp2_with ((with_reducible show wpList _ _ _ _ _ _); refine wpList_store_row rfl 25 (.tmp 2) (.tmp 5) rfl (w.heap.size + 1) dg rfl rfl 25 _ F3.out (by rw [HLen.out]; kernel_rfl) (by rw [HLen.out]; rfl) HOne.out ?_; go_frame)
  refine bodyPost_ret (results_cell_row rfl _ _ (w.heap.size + 1) 25 dg (0, 0) (.array 32 5) rfl (setRow_heap _ _ _ _ _ _ F3.out) Tryz.underlying25 rfl (by rw [HLen.out]; kernel_rfl)) rfl ⟨rfl, below_setRow B3.out (Nat.le_succ _) _⟩
end Go.Proofs.YtbgagaaoldjhnaaGreatDoor.Sha

/-
  Package block answers the digests that a block's transactions go by, their root, its own. New memory; nothing that was there turns. Conditions: a block of a few transactions that lies in memory; the table is there.
-/
namespace Go.Proofs.YtbgagaaoldjhnaaGreatDoor.Sha
open Go Go.RowKit
/-- The digests that transactions go by. -/
def idsL (l : List TTx) : List (List UInt8) := l.map fun t => sha (sha (txB t))
theorem idsL_ok (l : List TTx) : HsOk (idsL l) := fun y hy => by
  obtain ⟨t, _, rfl⟩ := List.mem_map.1 hy
  exact sha_length _
theorem idsL_snoc {l : List TTx} {k : Nat} {t : TTx} (h : l[k]? = some t) : idsL (l.take (k + 1)) = idsL (l.take k) ++ [sha (sha (txB t))] := by
  unfold idsL
  rw [List.take_add_one, h, List.map_append]
  rfl
theorem idsL_length (l : List TTx) : (idsL l).length = l.length := by simp [idsL]
/-- The root of a block's transactions. -/
def blRoot (x : TBlk) : List UInt8 := rootL prH zM (idsL x.txs)
theorem blRoot_length (x : TBlk) : (blRoot x).length = 32 := rootL_len _ _ rfl (idsL_ok _)
end Go.Proofs.YtbgagaaoldjhnaaGreatDoor.Sha

/-
  Package block makes the block that each chain begins with. New memory; nothing that was there turns. Condition: the table is there.
-/
namespace Go.Proofs.YtbgagaaoldjhnaaGreatDoor.Sha
open Go Go.RowKit
def startH : THd := ⟨1, zH, zH, 1000, 1, 0⟩
def startT : TTx := firstT 0 0 (sha []) []
/-- The block that each chain begins with, its root not yet set. -/
def startX0 : TBlk := ⟨startH, [startT]⟩
def startX : TBlk := ⟨{ startH with root := blRoot startX0 }, [startT]⟩
theorem startH_ok : HdOk startH := ⟨by decide, rfl, rfl, by decide, by decide, by decide⟩
theorem startX_ok : HdOk startX.head := ⟨by decide, rfl, blRoot_length startX0, by decide, by decide, by decide⟩
theorem firstT_came {h32 val : Nat} {lock ex : List UInt8} (h1 : h32 ≤ 4294967295) (hv : val ≤ 18446744073709551615) (hl : lock.length = 32) (he : ex.length ≤ 99000) : TxSmall (firstT h32 val lock ex) := by
  refine ⟨⟨⟨by show 1 ≤ _; omega, by show 0 ≤ _; omega⟩, ?_, ?_, ?_, by simp [firstT], by simp [firstT]⟩, by simp [firstT], by simp [firstT], ?_⟩
  · intro y hy
    simp only [firstT, List.mem_singleton] at hy
    rw [hy]
    exact firstX_ok ex h1
  · intro y hy
    simp only [firstT, List.mem_singleton] at hy
    rw [hy]
    exact ⟨hl, hv⟩
  · intro y hy
    simp only [firstT, List.mem_singleton] at hy
    rw [hy]
    simp only [firstX, List.length_append, leB_length]
    omega
  · intro y hy
    simp only [firstT, List.mem_singleton] at hy
    rw [hy]
    simp only [firstX, List.length_append, leB_length]
    omega
theorem startT_small : TxSmall startT := firstT_came (by omega) (by omega) (sha_length _) (by simp)
theorem startX0_small : BlkSmall startX0 := ⟨fun t ht => by simp only [startX0, List.mem_singleton] at ht; rw [ht]; exact startT_small, by simp [startX0]⟩
end Go.Proofs.YtbgagaaoldjhnaaGreatDoor.Sha

/-
  Headers that grow each upon an earlier one, the tree that they make, the ways in it: plain mathematics. No conditions.
-/
namespace Go.Proofs.YtbgagaaoldjhnaaGreatDoor.Sha
open Go Go.RowKit
/-- The header that number x makes, behind out. -/
def growH (out : List THd) (i : Nat) (x : Int) : THd :=
  ⟨i % 4294967296, hdId (out.getD (numb x out.length).toNat startX.head), zH, ((out.getD (numb x out.length).toNat startX.head).time + (numb (x.tdiv 64) 30).toNat) % 4294967296, 1 + (numb (x.tdiv 2048) 4).toNat, 0⟩
theorem growH_ok (out : List THd) (i : Nat) (x : Int) : HdOk (growH out i x) := by
  have h4 := numb_bd (x.tdiv 2048) 4 (by omega)
  refine ⟨?_, hdId_length _, rfl, ?_, ?_, ?_⟩
  · show i % 4294967296 ≤ _; omega
  · show _ % 4294967296 ≤ _; omega
  · show 1 + (numb (x.tdiv 2048) 4).toNat ≤ _; omega
  · show 0 ≤ _; omega
def grownN (z : Nat → Int) : Nat → List THd
  | 0 => [startX.head]
  | k + 1 => grownN z k ++ [growH (grownN z k) k (z k)]
theorem grownN_length (z : Nat → Int) : ∀ k, (grownN z k).length = k + 1
  | 0 => rfl
  | k + 1 => by rw [grownN, List.length_append, grownN_length z k]; rfl
theorem grownN_ok (z : Nat → Int) : ∀ k, ∀ h ∈ grownN z k, HdOk h
  | 0, h, hh => by rcases List.mem_singleton.1 hh with rfl; exact startX_ok
  | k + 1, h, hh => by
    rcases List.mem_append.1 hh with h1 | h1
    · exact grownN_ok z k h h1
    · rcases List.mem_singleton.1 h1 with rfl; exact growH_ok _ _ _
def hdAt (z : Nat → Int) (j : Nat) : THd := (grownN z j).getD j startX.head
theorem grownN_get (z : Nat → Int) : ∀ (k j : Nat), j ≤ k → (grownN z k)[j]? = some (hdAt z j)
  | 0, j, h => by
    obtain rfl : j = 0 := by omega
    rfl
  | k + 1, j, h => by
    by_cases e : j = k + 1
    · subst e
      unfold hdAt
      rw [List.getD_eq_getElem?_getD, List.getElem?_eq_getElem (by rw [grownN_length]; omega)]
      rfl
    · rw [grownN, List.getElem?_append_left (by rw [grownN_length]; omega)]
      exact grownN_get z k j (by omega)
theorem hdAt_ok (z : Nat → Int) (j : Nat) : HdOk (hdAt z j) := grownN_ok z j _ (List.mem_of_getElem? (grownN_get z j j (Nat.le_refl _)))
theorem hdAt_succ (z : Nat → Int) (j : Nat) : hdAt z (j + 1) = growH (grownN z j) j (z j) := by
  have h := grownN_get z (j + 1) (j + 1) (Nat.le_refl _)
  rw [grownN, List.getElem?_append_right (by rw [grownN_length]; omega), grownN_length, Nat.sub_self] at h
  injection h with h
  exact h.symm
theorem hdAt_prev (z : Nat → Int) (j : Nat) : ∃ i, i ≤ j ∧ (hdAt z (j + 1)).prev = hdId (hdAt z i) := by
  have hb := numb_bd (z j) ((grownN z j).length : Int) (by rw [grownN_length]; omega)
  rw [grownN_length] at hb
  refine ⟨(numb (z j) ((grownN z j).length : Int)).toNat, by rw [grownN_length]; omega, ?_⟩
  rw [hdAt_succ]
  show hdId _ = _
  rw [List.getD_eq_getElem?_getD, grownN_get z j _ (by rw [grownN_length]; omega)]
  rfl
/-- A header taken in, or not. -/
def addT (L : List TNd) (h : THd) : List TNd := if addE L h = 0 then L ++ [nxT L h] else L
def treeN (z : Nat → Int) : Nat → List TNd
  | 0 => [stT (hdAt z 0)]
  | k + 1 => addT (treeN z k) (hdAt z (k + 1))
def Hung (L : List TNd) : Prop := ∀ (i : Nat) (x : TNd), L[i]? = some x → 0 ≤ x.parent → (L.getD x.parent.toNat ndZ).id = x.h.prev
theorem findT_push {L : List TNd} {id : List UInt8} (x : TNd) (h : 0 ≤ findT L id) : findT (L ++ [x]) id = findT L id := by
  rcases findT_cases L id with ⟨e, _⟩ | ⟨k, y, e, hy, hi, hlt⟩
  · omega
  · rw [e]
    have hk := (List.getElem?_eq_some_iff.1 hy).1
    exact findT_some (by rw [List.getElem?_append_left hk]; exact hy) hi fun j z hj hz => hlt j z hj (by rw [List.getElem?_append_left (by omega)] at hz; exact hz)
theorem findT_last {L : List TNd} (x : TNd) (h : ∀ y ∈ L, y.id ≠ x.id) : findT (L ++ [x]) x.id = (L.length : Int) :=
  findT_some (by rw [List.getElem?_append_right (Nat.le_refl _), Nat.sub_self]; rfl) rfl fun j z hj hz => h z (by rw [List.getElem?_append_left hj] at hz; exact List.mem_of_getElem? hz)
structure TwI (z : Nat → Int) (k : Nat) (L : List TNd) : Prop where
  tr : TrL L
  hung : Hung L
  has : ∀ j, j ≤ k → 0 ≤ findT L (hdId (hdAt z j))
  len : L.length ≤ k + 1
theorem Hung.push {L : List TNd} {hd : THd} (h : Hung L) (ht : TrL L) (ha : addE L hd = 0) : Hung (L ++ [nxT L hd]) := by
  intro i x hx hp
  by_cases hi : i < L.length
  · rw [List.getElem?_append_left hi] at hx
    have hd' := ht.down _ _ hx
    rw [List.getD_eq_getElem?_getD, List.getElem?_append_left (by omega), ← List.getD_eq_getElem?_getD]
    exact h i x hx hp
  · have e : i = L.length := by have := (List.getElem?_eq_some_iff.1 hx).1; simp at this; omega
    rw [e, List.getElem?_append_right (Nat.le_refl _), Nat.sub_self] at hx
    cases hx
    unfold addE at ha
    split at ha
    · omega
    split at ha
    · omega
    rename_i h1 h2
    rcases findT_cases L hd.prev with ⟨e, _⟩ | ⟨k, y, e, hy, hi, _⟩
    · omega
    · have hk := (List.getElem?_eq_some_iff.1 hy).1
      have ep : (nxT L hd).parent = (k : Int) := e
      rw [ep, Int.toNat_natCast, List.getD_eq_getElem?_getD, List.getElem?_append_left hk, hy]
      exact hi
theorem TwI.start (z : Nat → Int) : TwI z 0 (treeN z 0) := by
  refine ⟨stT_tr (hdAt_ok z 0), fun i x hx hp => ?_, fun j hj => ?_, Nat.le_refl _⟩
  · cases i with
    | zero => cases hx; exact absurd hp (by show ¬ (0 : Int) ≤ -1; omega)
    | succ i => cases hx
  · obtain rfl : j = 0 := by omega
    have e := findT_some (L := treeN z 0) (id := hdId (hdAt z 0)) (k := 0) (x := stT (hdAt z 0)) rfl rfl (fun j y hj => by omega)
    omega
theorem TwI.step {z : Nat → Int} {k : Nat} {L : List TNd} (h : TwI z k L) (hk : k ≤ 100) : TwI z (k + 1) (addT L (hdAt z (k + 1))) := by
  obtain ⟨i, hi, hp⟩ := hdAt_prev z k
  have hpf := h.has i hi
  rw [← hp] at hpf
  have hl := h.len
  unfold addT
  by_cases h9 : 0 ≤ findT L (hdId (hdAt z (k + 1)))
  · have e : addE L (hdAt z (k + 1)) = 109 := by unfold addE; rw [if_pos h9]
    rw [if_neg (by omega)]
    refine ⟨h.tr, h.hung, fun j hj => ?_, by omega⟩
    by_cases hj2 : j = k + 1
    · subst hj2; exact h9
    · exact h.has j (by omega)
  · have e : addE L (hdAt z (k + 1)) = 0 := by unfold addE; rw [if_neg h9, if_neg (by omega), if_neg (by omega)]
    rw [if_pos e]
    refine ⟨h.tr.push (hdAt_ok z _) e, h.hung.push h.tr e, fun j hj => ?_, by rw [List.length_append]; simp; omega⟩
    by_cases hj2 : j = k + 1
    · subst hj2
      have hno : ∀ y ∈ L, y.id ≠ hdId (hdAt z (k + 1)) := by
        rcases findT_cases L (hdId (hdAt z (k + 1))) with ⟨_, q⟩ | ⟨q, x, q1, _⟩
        · exact q
        · omega
      have := findT_last (nxT L (hdAt z (k + 1))) hno
      have e2 : (nxT L (hdAt z (k + 1))).id = hdId (hdAt z (k + 1)) := rfl
      rw [e2] at this
      rw [this]
      omega
    · rw [findT_push _ (h.has j (by omega))]
      exact h.has j (by omega)
theorem treeN_i (z : Nat → Int) : ∀ k, k ≤ 101 → TwI z k (treeN z k)
  | 0, _ => TwI.start z
  | k + 1, h => (treeN_i z k (by omega)).step (by omega)
/-- The id of the one so far down a chain. -/
def upId (L : List TNd) (x : Int) (n : Nat) : List UInt8 := (L.getD ((upL L x).getD n 0).toNat ndZ).id
theorem up_len {L : List TNd} (x : Int) : (upL L x).length = (chainT L x).length := by unfold chainT; rw [List.length_reverse]
theorem comP_eq : ∀ (l m : List Int) (i : Nat), i < comP l m → l[i]? = m[i]?
  | [], m, i, h => by cases m <;> exact absurd h (by unfold comP; omega)
  | x :: l, [], i, h => absurd h (by unfold comP; omega)
  | x :: l, y :: m, i, h => by
    unfold comP at h
    split at h
    · next e =>
      cases i with
      | zero => rw [e]; rfl
      | succ i => exact comP_eq l m i (by omega)
    · omega
theorem comP_comm : ∀ (l m : List Int), comP l m = comP m l
  | [], [] => rfl
  | [], y :: m => rfl
  | x :: l, [] => rfl
  | x :: l, y :: m => by
    unfold comP
    by_cases e : x = y
    · rw [if_pos e, if_pos e.symm, comP_comm l m]
    · rw [if_neg e, if_neg (fun h => e h.symm)]
/-- Of two blocks: how far down each of them what they have in common lies. -/
structure TwP (L : List TNd) (x y : Int) (nb nc : Nat) : Prop where
  back : backT L x y = idsT L ((upL L x).take nb)
  on : onT L x y = (idsT L ((upL L y).take nc)).reverse
  down : backT L y x = idsT L ((upL L y).take nc)
  up : onT L y x = (idsT L ((upL L x).take nb)).reverse
  lb : nb < (upL L x).length
  lc : nc < (upL L y).length
  mb : meetT L x y = upId L x nb
  mc : meetT L x y = upId L y nc
theorem tw_p {L : List TNd} (ht : TrL L) {x y : Nat} (hx : x < L.length) (hy : y < L.length) : TwP L (x : Int) (y : Int) ((upL L (x : Int)).length - comT L (x : Int) (y : Int)) ((upL L (y : Int)).length - comT L (x : Int) (y : Int)) := by
  have hp := com_pos ht.down ht.root hx hy
  have hcm : comT L (y : Int) (x : Int) = comT L (x : Int) (y : Int) := comP_comm _ _
  have hle := comP_le (upL L (x : Int)).reverse (upL L (y : Int)).reverse
  rw [List.length_reverse, List.length_reverse] at hle
  have hce : comP (upL L (x : Int)).reverse (upL L (y : Int)).reverse = comT L (x : Int) (y : Int) := rfl
  rw [hce] at hle
  refine ⟨rfl, by unfold onT idsT; rw [List.map_reverse], by unfold backT; rw [hcm], by unfold onT idsT; rw [hcm, List.map_reverse], by omega, by omega, rfl, ?_⟩
  have he := comP_eq (upL L (x : Int)).reverse (upL L (y : Int)).reverse (comT L (x : Int) (y : Int) - 1) (by rw [hce]; omega)
  rw [List.getElem?_reverse (by omega), List.getElem?_reverse (by omega)] at he
  have e1 : (upL L (x : Int)).getD ((upL L (x : Int)).length - comT L (x : Int) (y : Int)) 0 = (upL L (y : Int)).getD ((upL L (y : Int)).length - comT L (x : Int) (y : Int)) 0 := by
    rw [List.getD_eq_getElem?_getD, List.getD_eq_getElem?_getD, show (upL L (x : Int)).length - comT L (x : Int) (y : Int) = (upL L (x : Int)).length - 1 - (comT L (x : Int) (y : Int) - 1) by omega, show (upL L (y : Int)).length - comT L (x : Int) (y : Int) = (upL L (y : Int)).length - 1 - (comT L (x : Int) (y : Int) - 1) by omega, he]
  unfold meetT upId
  rw [e1]
end Go.Proofs.YtbgagaaoldjhnaaGreatDoor.Sha
