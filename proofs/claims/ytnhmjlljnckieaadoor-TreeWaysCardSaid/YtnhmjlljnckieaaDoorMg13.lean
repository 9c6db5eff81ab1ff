/-
  Texts of this proof joined into one file: CtDown, Txs, HdStore, BlStore, TxTakeW, TxReadW, MkClimb0, BlFirst, BlMath, BlSm, BlSize, BytesEq, TxId, HdBytes. What each holds, and under which conditions, its own first sentence tells.
-/
import Derived.Deep.LoopGhost
import Derived.LaidEqlPtr
import Derived.Lib.Builder
import Derived.Laws.ResultCell
import Derived.Lib.AppendZerosOnto
import Derived.Lib.Walk
import Derived.IntWalk
import Derived.Lib.BufferRead
import Derived.Test.YtnhmjlljnckieaaDoorMg11
import Derived.Test.YtnhmjlljnckieaaDoorMg07
import Derived.Test.YtnhmjlljnckieaaDoorMg10
import Derived.Test.YtnhmjlljnckieaaDoorMg12
import Derived.Test.YtnhmjlljnckieaaDoorMg06
import Derived.Test.YtnhmjlljnckieaaDoorMg04
import Derived.Test.YtnhmjlljnckieaaDoorMg01
import Derived.Test.YtnhmjlljnckieaaDoorMg05
import Derived.Test.YtnhmjlljnckieaaDoorMg03
/-
  The program's tree: down to a height, where two chains meet, the ids above a node. Nothing that was there turns. Conditions: the tree lies where it should, nodes as the model has them.
-/
namespace Go.Proofs.YtnhmjlljnckieaaDoor.Sha
open Go Go.RowKit
theorem anc_chainAt {L : List TNd} {k t : Int} {j : Int} (h0 : 0 ≤ t) (h : ancT L k t = some j) : (chainT L k)[t.toNat]? = some j := by
  unfold ancT at h
  rwa [if_neg (by omega)] at h
theorem chain_ok {L : List TNd} (h : TrL L) {k t : Nat} {x : TNd} {j : Int} (hx : L[k]? = some x) (hj : (chainT L (k : Int))[t]? = some j) : ∃ (i : Nat) (y : TNd), j = (i : Int) ∧ L[i]? = some y ∧ y.height = (t : Int) := by
  have hl := chain_length h hx
  have ht := (List.getElem?_eq_some_iff.1 hj).1
  obtain ⟨i, y, h1, _, h2, h3⟩ := anc_is h k k x (t : Int) (Nat.le_refl _) hx (by omega) (by omega)
  have h4 := anc_chainAt (by omega) h1
  rw [Int.toNat_natCast, hj] at h4
  exact ⟨i, y, by injection h4, h2, h3⟩
theorem chain_prev {L : List TNd} (h : TrL L) {k t : Nat} {x : TNd} {j : Nat} {y : TNd} (hx : L[k]? = some x) (hj : (chainT L (k : Int))[t + 1]? = some (j : Int)) (hy : L[j]? = some y) : ∃ (p : Nat) (z : TNd), y.parent = (p : Int) ∧ L[p]? = some z ∧ (chainT L (k : Int))[t]? = some (p : Int) := by
  obtain ⟨i, y', e, hy', hh⟩ := chain_ok h hx hj
  have e : j = i := by omega
  subst e
  rw [hy] at hy'
  cases hy'
  rcases h.parent hy with ⟨_, _, h3⟩ | ⟨p, z, _, h3, h4, h5⟩
  · omega
  · refine ⟨p, z, h3, h4, ?_⟩
    have q := anc_chain h k k x j (t + 1) (Nat.le_refl _) hx hj
    have e2 : ((chainT L (k : Int)).take (t + 1 + 1))[t]? = (chainT L (j : Int))[t]? := by rw [q]
    rw [List.getElem?_take_of_lt (by omega)] at e2
    rw [e2, chain_step h.down hy, h3]
    have hl := chain_length h h4
    rw [List.getElem?_append_left (by omega)]
    have q2 := anc_self h h4
    have q3 := anc_chainAt (by omega) q2
    rw [show z.height.toNat = t by omega] at q3
    exact q3
def DnInv (M : List CNd) (k0 t : Int) (n : Nat) (v : Value) : Prop :=
  ∃ (j : Nat) (d : CNd), M[j]? = some d ∧ v = .pointer (some ⟨d.ad, 0, none⟩) ∧ (n : Int) = d.nd.height - t ∧ 0 ≤ d.nd.height - t ∧ ancT (ndM M) k0 t = ancT (ndM M) (j : Int) t
section
variable {w : World} {base b mb : Nat} {M : List CNd}
/-- A node's cells, in every later world. -/
theorem CtAt.cells (h : CtAt w base b mb M) (ht : TrL (ndM M)) {i : Nat} {c : CNd} (hc : M[i]? = some c) {W : World} (hW : Below w.heap.size w W) : W.cell? ⟨c.ad, 100, none⟩ = some (.int .i64 c.nd.height) ∧ W.cell? ⟨c.ad, 101, none⟩ = some (.int .u64 (c.nd.work : Int)) ∧ W.cell? ⟨c.ad, 102, none⟩ = some (nptr (cnP M c.nd.parent)) ∧ W.cell? ⟨c.ad, 103, none⟩ = some c.kids :=
  have ok := ht.ok _ (List.mem_of_getElem? (ndM_at hc))
  cn_cells ((h.below hW).node i c hc) ok.1 ok.2.1
theorem CtAt.idr (h : CtAt w base b mb M) {i : Nat} {c : CNd} (hc : M[i]? = some c) {W : World} (hW : Below w.heap.size w W) : W.rangeAt c.ad 0 (c.nd.id.map bV) := cn_id ((h.below hW).node i c hc)
theorem CtAt.far2 (h : CtAt w base b mb M) {i j : Nat} {c d : CNd} (hc : M[i]? = some c) (hd : M[j]? = some d) (hij : i ≠ j) : c.ad ≠ d.ad := (h.ne i j c d hc hd hij).1
end
theorem info_tnode : (Tryd.prog.info? 64).map (·.size) = some 104 := by kernel_rfl
theorem neq_node_same (g : Nat) (W : World) : (binOp .neq 61 (.pointer (some ⟨g, 0, none⟩)) (.pointer (some ⟨g, 0, none⟩))).run Tryd.prog W = .ok (.bool false) W := by
  obtain ⟨j, hj, _⟩ := Option.map_eq_some_iff.1 info_tnode
  exact Lib.run_neq_ptr_same W _ Tryd.underlying61 hj
theorem neq_node_other {g q : Nat} {W : World} {c d : Array Value} {T U : TypeId} (h : g ≠ q) (hg : W.heap[g]? = some (.cells c T (0, 0))) (hq : W.heap[q]? = some (.cells d U (0, 0))) : (binOp .neq 61 (.pointer (some ⟨g, 0, none⟩)) (.pointer (some ⟨q, 0, none⟩))).run Tryd.prog W = .ok (.bool true) W := by
  obtain ⟨j, hj, hs⟩ := Option.map_eq_some_iff.1 info_tnode
  have h2 := run_sameAddr_other (P := Tryd.prog) (a := ⟨g, 0, none⟩) (b := ⟨q, 0, none⟩) W (fun e => h (by injection e)) hg hq
  have h1 : ∀ d : Nat, (Op.equalIn (d + 1) 61 (.pointer (some ⟨g, 0, none⟩)) (.pointer (some ⟨q, 0, none⟩))).run Tryd.prog W = .ok false W := fun d => by
    simp [Op.equalIn, run_underlying Tryd.underlying61, sizeOf, typeInfo, hj, hs, h2]
  simp only [binOp]
  simp [Op.equal, Op.maxDepth, h1 9999]
set_option maxHeartbeats 1000000 in
set_option maxRecDepth 100000 in
theorem ctdown_any (w : World) (base b mb : Nat) (M : List CNd) (k : Nat) (c : CNd) (t : Int) (h : CtAt w base b mb M) (ht : TrL (ndM M)) (hc : M[k]? = some c) (h0 : 0 ≤ t) (h1 : t ≤ c.nd.height) (W : World) (hW : Below w.heap.size w W) :
    Calls Tryd.prog 31 #[.pointer (some ⟨c.ad, 0, none⟩), .int .i64 t] W fun e w' => (∃ (j : Nat) (d : CNd), M[j]? = some d ∧ ancT (ndM M) (k : Int) t = some (j : Int) ∧ d.nd.height = t ∧ e = .returned (.pointer (some ⟨d.ad, 0, none⟩))) ∧ W = w' := by
  have HT := Lib.hid h
  have TR := Lib.hid ht
  have HC := Lib.hid hc
  have HW := Lib.hid hW
  have H0 := Lib.hid h0
  have H1 := Lib.hid h1
  clear h ht hc hW h0 h1
  go_enter Tryd.func31, Tryd.ntmps31
  go_wp2_with fail
  go_loopg [0] (c.nd.height - t).toNat (fun n v wr => DnInv M (k : Int) t n v ∧ W = wr)
  case atStart => exact ⟨⟨k, c, HC.out, rfl, by have := H1.out; omega, by have := H1.out; omega, rfl⟩, rfl⟩
  case round =>
    obtain ⟨⟨j, d, hd, rfl, hn, hn0, ha⟩, rfl⟩ := hrel
    obtain ⟨c100, _, c102, _⟩ := HT.out.cells TR.out hd HW.out
    obtain ⟨H, hH⟩ : ∃ H, H = d.nd.height := ⟨_, rfl⟩
    rw [← hH] at c100 hn hn0
    have HD := Lib.hid hd
    have HA := Lib.hid ha
    have HN := Lib.hid hn
    have HHE := Lib.hid hH
    by_cases hgt : t < H
    · rcases TR.out.parent (ndM_at hd) with ⟨_, _, h3⟩ | ⟨p, y, _, h3, h4, h5⟩
      · have := H0.out; omega
      · obtain ⟨q, hq, hqe⟩ := ndM_get h4
        rw [h3, cnP_at hq] at c102
        have C102 : Hid (nptr (some q.ad) = .pointer (some ⟨q.ad, 0, none⟩)) := rfl
        rw [C102.out] at c102
        have QE : Hid (M[p]? = some q) := hq
        have PE : Hid (d.nd.parent = (p : Int)) := h3
        have QH : Hid (H = q.nd.height + 1) := by show _ = _; rw [hH, hqe]; exact h5
        clear hd hn hn0 ha hH h3 h4 h5 hq hqe C102
        go_wp2_with fail
        go_roundg (gk - 1)
        case measure => have := HN.out; omega
        case rel =>
          exact ⟨⟨p, q, QE.out, rfl, by have := HN.out; have := QH.out; omega, by have := QH.out; omega, by rw [HA.out, anc_step TR.out (ndM_at HD.out) (by rw [← HHE.out]; omega), PE.out]⟩, rfl⟩
    · have e : H = t := by omega
      have EQ := Lib.hid e
      clear hd hn hn0 ha hH e
      go_wp2_with fail
      go_ret
      exact ⟨⟨j, d, HD.out, by rw [HA.out, ← EQ.out, HHE.out]; exact anc_self TR.out (ndM_at HD.out), by rw [← HHE.out]; exact EQ.out, rfl⟩, rfl⟩
/-- What meet leaves. -/
def MePost (M : List CNd) (x y : Int) (e : Ending) : Prop :=
  ∃ (j : Nat) (f : CNd) (t : Nat), M[j]? = some f ∧ e = .returned (.pointer (some ⟨f.ad, 0, none⟩)) ∧ (chainT (ndM M) x)[t]? = some (j : Int) ∧ (chainT (ndM M) y)[t]? = some (j : Int) ∧ comT (ndM M) x y = t + 1
def MeInv (M : List CNd) (x y : Int) (t : Nat) (v u : Value) : Prop :=
  ∃ (j i : Nat) (f g : CNd), M[j]? = some f ∧ M[i]? = some g ∧ v = .pointer (some ⟨f.ad, 0, none⟩) ∧ u = .pointer (some ⟨g.ad, 0, none⟩) ∧ (chainT (ndM M) x)[t]? = some (j : Int) ∧ (chainT (ndM M) y)[t]? = some (i : Int) ∧ (∀ s : Nat, t < s → s < (chainT (ndM M) x).length → s < (chainT (ndM M) y).length → (chainT (ndM M) x)[s]? ≠ (chainT (ndM M) y)[s]?)
set_option maxHeartbeats 1000000 in
set_option maxRecDepth 100000 in
theorem ctmeet_any (w : World) (base b mb : Nat) (M : List CNd) (x y : Nat) (c d : CNd) (h : CtAt w base b mb M) (ht : TrL (ndM M)) (hc : M[x]? = some c) (hd : M[y]? = some d) (W : World) (hW : Below w.heap.size w W) :
    Calls Tryd.prog 25 #[.pointer (some ⟨c.ad, 0, none⟩), .pointer (some ⟨d.ad, 0, none⟩)] W fun e w' => MePost M (x : Int) (y : Int) e ∧ Below W.heap.size W w' := by
  have HT := Lib.hid h
  have TR := Lib.hid ht
  have HC := Lib.hid hc
  have HD := Lib.hid hd
  have HW := Lib.hid hW
  have C1 : Hid (∀ U, Below W.heap.size W U → U.cell? ⟨c.ad, 100, none⟩ = some (.int .i64 c.nd.height) ∧ True) := fun U hU => ⟨(h.cells ht hc (hW.trans (hU.mono hW.size))).1, trivial⟩
  have C2 : Hid (∀ U, Below W.heap.size W U → U.cell? ⟨d.ad, 100, none⟩ = some (.int .i64 d.nd.height) ∧ True) := fun U hU => ⟨(h.cells ht hd (hW.trans (hU.mono hW.size))).1, trivial⟩
  have DN : Hid (∀ (t : Int), 0 ≤ t → t ≤ c.nd.height → ∀ U, Below W.heap.size W U → Calls Tryd.prog 31 #[.pointer (some ⟨c.ad, 0, none⟩), .int .i64 t] U fun e w' => (∃ (j : Nat) (d : CNd), M[j]? = some d ∧ ancT (ndM M) (x : Int) t = some (j : Int) ∧ d.nd.height = t ∧ e = .returned (.pointer (some ⟨d.ad, 0, none⟩))) ∧ U = w') := fun t h0 h1 U hU => ctdown_any w base b mb M x c t h ht hc h0 h1 U (hW.trans (hU.mono hW.size))
  have DM : Hid (∀ (t : Int), 0 ≤ t → t ≤ d.nd.height → ∀ U, Below W.heap.size W U → Calls Tryd.prog 31 #[.pointer (some ⟨d.ad, 0, none⟩), .int .i64 t] U fun e w' => (∃ (j : Nat) (e' : CNd), M[j]? = some e' ∧ ancT (ndM M) (y : Int) t = some (j : Int) ∧ e'.nd.height = t ∧ e = .returned (.pointer (some ⟨e'.ad, 0, none⟩))) ∧ U = w') := fun t h0 h1 U hU => ctdown_any w base b mb M y d t h ht hd h0 h1 U (hW.trans (hU.mono hW.size))
  have hH1 := ht.height (ndM_at hc)
  have hH2 := ht.height (ndM_at hd)
  have cl1 := chain_length ht (ndM_at hc)
  have cl2 := chain_length ht (ndM_at hd)
  obtain ⟨H, hH⟩ : ∃ H, H = c.nd.height := ⟨_, rfl⟩
  obtain ⟨G, hG⟩ : ∃ G, G = d.nd.height := ⟨_, rfl⟩
  rw [← hH] at C1 DN hH1 cl1
  rw [← hG] at C2 DM hH2 cl2
  obtain ⟨low, hlow⟩ : ∃ low : Int, low = if G < H then G else H := ⟨_, rfl⟩
  have LOW : Hid ((if G < H then G else H) = low) := hlow.symm
  have LOWM : Hid (min H G = low) := by show _ = _; rw [hlow]; split <;> omega
  have LO : Hid (0 ≤ low ∧ low ≤ H ∧ low ≤ G ∧ ∀ s : Nat, low.toNat < s → s < (chainT (ndM M) (x : Int)).length → s < (chainT (ndM M) (y : Int)).length → (chainT (ndM M) (x : Int))[s]? ≠ (chainT (ndM M) (y : Int))[s]?) := by
    rw [hlow]
    split
    · exact ⟨by omega, by omega, by omega, fun s h1 h2 h3 => by omega⟩
    · exact ⟨by omega, by omega, by omega, fun s h1 h2 h3 => by omega⟩
  clear h ht hc hd hW hH hG hlow hH1 hH2 cl1 cl2
  go_enter Tryd.func25, Tryd.ntmps25
  go_upto_region 1 with fail
  refine wp_region_held_drew (S := (fun w' => Below W.heap.size W w')) (by kernel_rfl) (Below.drew (Below.refl _ _)) (fun hHeld => ?_)
  generalize hwd : W.drew = wd at  hHeld ⊢
  clear hwd
  refine held_take (i := 0) (v := (.pointer (some ⟨c.ad, 0, none⟩))) rfl (by kernel_rfl) (by kernel_rfl) (by kernel_rfl) (fun _ _ _ h => h) (Or.inl ⟨by rfl, fun w' _ => by kernel_rfl⟩) hHeld ?_
  go_frame
  refine held_take (i := 1) (v := (.pointer (some ⟨c.ad, 0, none⟩))) rfl (by kernel_rfl) (by kernel_rfl) (by kernel_rfl) (fun _ _ _ h => h) (Or.inl ⟨by rfl, fun w' _ => by kernel_rfl⟩) hHeld ?_
  go_frame
  refine held_take (i := 2) (v := (.pointer (some ⟨c.ad, 100, none⟩))) rfl (by kernel_rfl) (by kernel_rfl) (by kernel_rfl) (fun _ _ _ h => h) (Or.inl ⟨by rfl, fun w' _ => by kernel_rfl⟩) hHeld ?_
  go_frame
  refine held_take (i := 3) (v := (.int .i64 H)) rfl (by kernel_rfl) (by kernel_rfl) (by kernel_rfl) (fun _ _ _ h => h) (yieldsIf_load_one (by rfl) 3 (.tmp 8) rfl c.ad (100) rfl _ _ (fun w' hw' => (C1.out w' hw').1) Tryd.underlying3 rfl) hHeld ?_
  go_frame
  refine held_take (i := 4) (v := (.pointer (some ⟨d.ad, 0, none⟩))) rfl (by kernel_rfl) (by kernel_rfl) (by kernel_rfl) (fun _ _ _ h => h) (Or.inl ⟨by rfl, fun w' _ => by kernel_rfl⟩) hHeld ?_
  go_frame
  refine held_take (i := 5) (v := (.pointer (some ⟨d.ad, 0, none⟩))) rfl (by kernel_rfl) (by kernel_rfl) (by kernel_rfl) (fun _ _ _ h => h) (Or.inl ⟨by rfl, fun w' _ => by kernel_rfl⟩) hHeld ?_
  go_frame
  refine held_take (i := 6) (v := (.pointer (some ⟨d.ad, 100, none⟩))) rfl (by kernel_rfl) (by kernel_rfl) (by kernel_rfl) (fun _ _ _ h => h) (Or.inl ⟨by rfl, fun w' _ => by kernel_rfl⟩) hHeld ?_
  go_frame
  refine held_take (i := 7) (v := (.int .i64 G)) rfl (by kernel_rfl) (by kernel_rfl) (by kernel_rfl) (fun _ _ _ h => h) (yieldsIf_load_one (by rfl) 3 (.tmp 12) rfl d.ad (100) rfl _ _ (fun w' hw' => (C2.out w' hw').1) Tryd.underlying3 rfl) hHeld ?_
  go_frame
  refine held_take (i := 8) (v := (.int .i64 low)) rfl (by kernel_rfl) (by kernel_rfl) (by kernel_rfl) (fun _ _ _ h => h) (Or.inl ⟨by rfl, fun w' _ => by go_simp; first | rw [LOW.out] | rw [LOWM.out]⟩) hHeld ?_
  go_frame
  refine held_take (i := 9) (v := (.int .i64 low)) rfl (by kernel_rfl) (by kernel_rfl) (by kernel_rfl) (fun _ _ _ h => h) (Or.inl ⟨by rfl, fun w' _ => by kernel_rfl⟩) hHeld ?_
  go_frame
  refine wpAnyH_done (by kernel_rfl) ?_ _
  obtain ⟨W1, hW1⟩ : ∃ W1, W1 = wd := ⟨_, rfl⟩
  rw [← hW1] at hHeld ⊢
  clear hW1
  have B1 := Lib.hid hHeld
  clear hHeld C1 C2
  go_wp2_with fail
  refine (DN.out low LO.out.1 LO.out.2.1 _ B1.out).mono ?_
  rintro e w2 ⟨⟨j, f, hf, hfa, hfh, rfl⟩, rfl⟩
  have FJ := Lib.hid hf
  have FA := Lib.hid (anc_chainAt LO.out.1 hfa)
  clear hf hfa hfh
  go_wp2_with fail
  refine (DM.out low LO.out.1 LO.out.2.2.1 _ B1.out).mono ?_
  rintro e w2 ⟨⟨i, g, hg, hga, hgh, rfl⟩, rfl⟩
  have GI := Lib.hid hg
  have GA := Lib.hid (anc_chainAt LO.out.1 hga)
  clear hg hga hgh DN DM
  go_wp2_with fail
  go_loopg [0, 1] low.toNat (fun n v u wr => MeInv M (x : Int) (y : Int) n v u ∧ Below W.heap.size W wr)
  case atStart => exact ⟨⟨j, i, f, g, FJ.out, GI.out, rfl, rfl, FA.out, GA.out, LO.out.2.2.2⟩, B1.out⟩
  case round =>
    clear FJ GI FA GA
    obtain ⟨⟨j, i, f, g, hf, hg, rfl, rfl, h1, h2, h3⟩, hb⟩ := hrel
    have BW := Lib.hid hb
    clear hb B1
    have FJ := Lib.hid hf
    have GI := Lib.hid hg
    have H1 := Lib.hid h1
    have H2 := Lib.hid h2
    have H3 := Lib.hid h3
    clear h1 h2 h3
    by_cases hij : j = i
    · subst hij
      rw [hf] at hg
      obtain rfl : f = g := by injection hg
      clear hf GI
      have hq := neq_node_same f.ad wr
      go_wp2_with fail
      go_ret
      obtain ⟨_, y', e, hy', hh⟩ := chain_ok TR.out (ndM_at HC.out) H1.out
      exact ⟨⟨j, f, gk, FJ.out, rfl, H1.out, H2.out, com_chain TR.out (ndM_at HC.out) (ndM_at HD.out) H1.out H2.out H3.out⟩, BW.out⟩
    · have hT := HT.out.below (HW.out.trans (BW.out.mono HW.out.size))
      have hq := neq_node_other (HT.out.far2 hf hg hij) (hT.node _ _ hf) (hT.node _ _ hg)
      clear hT
      obtain ⟨s, hs⟩ : ∃ s, gk = s + 1 := by
        cases gk with
        | zero =>
          have z1 := chain_zero TR.out (ndM_at HC.out)
          have z2 := chain_zero TR.out (ndM_at HD.out)
          have e1 := H1.out
          have e2 := H2.out
          rw [z1] at e1
          rw [z2] at e2
          have e3 : (0 : Int) = (j : Int) := by injection e1
          have e4 : (0 : Int) = (i : Int) := by injection e2
          exact absurd (by omega) hij
        | succ s => exact ⟨s, rfl⟩
      subst hs
      obtain ⟨p, z, p1, p2, p3⟩ := chain_prev TR.out (ndM_at HC.out) H1.out (ndM_at hf)
      obtain ⟨q, z', q1, q2, q3⟩ := chain_prev TR.out (ndM_at HD.out) H2.out (ndM_at hg)
      obtain ⟨f', hf', _⟩ := ndM_get p2
      obtain ⟨g', hg', _⟩ := ndM_get q2
      have D1 : Hid (∀ W2, Below wr.heap.size wr W2 → W2.cell? ⟨f.ad, 102, none⟩ = some (.pointer (some ⟨f'.ad, 0, none⟩))) := fun W2 hW2 => by
        have h := (HT.out.cells TR.out hf (HW.out.trans ((BW.out.trans (hW2.mono BW.out.size)).mono HW.out.size))).2.2.1
        rw [p1, cnP_at hf'] at h
        exact h
      have D2 : Hid (∀ W2, Below wr.heap.size wr W2 → W2.cell? ⟨g.ad, 102, none⟩ = some (.pointer (some ⟨g'.ad, 0, none⟩))) := fun W2 hW2 => by
        have h := (HT.out.cells TR.out hg (HW.out.trans ((BW.out.trans (hW2.mono BW.out.size)).mono HW.out.size))).2.2.1
        rw [q1, cnP_at hg'] at h
        exact h
      have F2 := Lib.hid hf'
      have G2 := Lib.hid hg'
      have P3 := Lib.hid p3
      have Q3 := Lib.hid q3
      clear hf hg p1 p2 p3 q1 q2 q3 hf' hg'
      go_upto_region 4 with fail
      clear hq
      refine wp_region_held_drew (S := (fun w' => Below wr.heap.size wr w')) (by kernel_rfl) (Below.drew (Below.refl _ _)) (fun hHeld => ?_)
      generalize hwd : wr.drew = wd at  hHeld ⊢
      clear hwd
      refine held_take (i := 0) (v := (.pointer (some ⟨f.ad, 0, none⟩))) rfl (by kernel_rfl) (by kernel_rfl) (by kernel_rfl) (fun _ _ _ h => h) (Or.inl ⟨by rfl, fun w' _ => by kernel_rfl⟩) hHeld ?_
      go_frame
      refine held_take (i := 1) (v := (.pointer (some ⟨f.ad, 0, none⟩))) rfl (by kernel_rfl) (by kernel_rfl) (by kernel_rfl) (fun _ _ _ h => h) (Or.inl ⟨by rfl, fun w' _ => by kernel_rfl⟩) hHeld ?_
      go_frame
      refine held_take (i := 2) (v := (.pointer (some ⟨f.ad, 102, none⟩))) rfl (by kernel_rfl) (by kernel_rfl) (by kernel_rfl) (fun _ _ _ h => h) (Or.inl ⟨by rfl, fun w' _ => by kernel_rfl⟩) hHeld ?_
      go_frame
      refine held_take (i := 3) (v := (.pointer (some ⟨f'.ad, 0, none⟩))) rfl (by kernel_rfl) (by kernel_rfl) (by kernel_rfl) (fun _ _ _ h => h) (yieldsIf_load_one (by rfl) 61 (.tmp 26) rfl f.ad (102) rfl _ _ (fun w' hw' => D1.out w' hw') Tryd.underlying61 rfl) hHeld ?_
      go_frame
      refine held_take (i := 4) (v := (.pointer (some ⟨g.ad, 0, none⟩))) rfl (by kernel_rfl) (by kernel_rfl) (by kernel_rfl) (fun _ _ _ h => h) (Or.inl ⟨by rfl, fun w' _ => by kernel_rfl⟩) hHeld ?_
      go_frame
      refine held_take (i := 5) (v := (.pointer (some ⟨g.ad, 0, none⟩))) rfl (by kernel_rfl) (by kernel_rfl) (by kernel_rfl) (fun _ _ _ h => h) (Or.inl ⟨by rfl, fun w' _ => by kernel_rfl⟩) hHeld ?_
      go_frame
      refine held_take (i := 6) (v := (.pointer (some ⟨g.ad, 102, none⟩))) rfl (by kernel_rfl) (by kernel_rfl) (by kernel_rfl) (fun _ _ _ h => h) (Or.inl ⟨by rfl, fun w' _ => by kernel_rfl⟩) hHeld ?_
      go_frame
      refine held_take (i := 7) (v := (.pointer (some ⟨g'.ad, 0, none⟩))) rfl (by kernel_rfl) (by kernel_rfl) (by kernel_rfl) (fun _ _ _ h => h) (yieldsIf_load_one (by rfl) 61 (.tmp 30) rfl g.ad (102) rfl _ _ (fun w' hw' => D2.out w' hw') Tryd.underlying61 rfl) hHeld ?_
      go_frame
      refine held_take (i := 8) (v := (.pointer (some ⟨f'.ad, 0, none⟩))) rfl (by kernel_rfl) (by kernel_rfl) (by kernel_rfl) (fun _ _ _ h => h) (Or.inl ⟨by rfl, fun w' _ => by kernel_rfl⟩) hHeld ?_
      go_frame
      refine held_take (i := 9) (v := (.pointer (some ⟨g'.ad, 0, none⟩))) rfl (by kernel_rfl) (by kernel_rfl) (by kernel_rfl) (fun _ _ _ h => h) (Or.inl ⟨by rfl, fun w' _ => by kernel_rfl⟩) hHeld ?_
      go_frame
      refine wpAnyH_done (by kernel_rfl) ?_ _
      have BE := Lib.hid (BW.out.trans (hHeld.mono BW.out.size))
      clear hHeld D1 D2
      go_wp2_with fail
      go_roundg s
      case measure => omega
      case rel =>
        refine ⟨⟨p, q, f', g', F2.out, G2.out, rfl, rfl, P3.out, Q3.out, fun u hu hu1 hu2 => ?_⟩, BE.out⟩
        by_cases hus : u = s + 1
        · subst hus
          rw [H1.out, H2.out]
          exact fun e => hij (by injection e with e; omega)
        · exact H3.out u (by omega) hu1 hu2
def AbInv (M : List CNd) (x : Int) (m : Nat) (W : World) (n : Nat) (vs v : Value) (wr : World) : Prop :=
  ∃ (j : Nat) (g : CNd) (tv : Value), tv = vs ∧ M[j]? = some g ∧ v = .pointer (some ⟨g.ad, 0, none⟩) ∧ (chainT (ndM M) x)[m + n]? = some (j : Int) ∧ HsOwn W.heap.size wr tv (idsT (ndM M) ((upL (ndM M) x).take ((chainT (ndM M) x).length - 1 - (m + n)))) ∧ Below W.heap.size W wr
set_option maxHeartbeats 1000000 in
set_option maxRecDepth 100000 in
theorem ctabove_any (w : World) (base b mb : Nat) (M : List CNd) (x j t : Nat) (c f : CNd) (h : CtAt w base b mb M) (ht : TrL (ndM M)) (hc : M[x]? = some c) (hf : M[j]? = some f) (hj : (chainT (ndM M) (x : Int))[t]? = some (j : Int)) (W : World) (hW : Below w.heap.size w W) :
    Calls Tryd.prog 26 #[.pointer (some ⟨c.ad, 0, none⟩), .pointer (some ⟨f.ad, 0, none⟩)] W fun e w' => ∃ v, e = .returned v ∧ HsOwn W.heap.size w' v (idsT (ndM M) ((upL (ndM M) (x : Int)).take ((chainT (ndM M) (x : Int)).length - 1 - t))) ∧ Below W.heap.size W w' := by
  obtain ⟨i0, hi, hz0, hz1, hz2⟩ := info_parts info_hash
  have HT := Lib.hid h
  have TR := Lib.hid ht
  have HC := Lib.hid hc
  have HF := Lib.hid hf
  have HJ := Lib.hid hj
  have HW := Lib.hid hW
  have CL : Hid (((chainT (ndM M) (x : Int)).length : Int) = c.nd.height + 1 ∧ 0 ≤ c.nd.height ∧ c.nd.height ≤ 4096) := by
    have h1 := ht.ok _ (List.mem_of_getElem? (ndM_at hc))
    exact ⟨chain_length ht (ndM_at hc), h1.2.2.2.2.1, h1.2.2.2.2.2.1⟩
  have ST : Hid ((chainT (ndM M) (x : Int))[t + (c.nd.height.toNat - t)]? = some (x : Int)) := by
    have h1 := anc_self ht (ndM_at hc)
    have h2 := anc_chainAt CL.out.2.1 h1
    have h3 := (List.getElem?_eq_some_iff.1 hj).1
    have := CL.out
    rw [show t + (c.nd.height.toNat - t) = c.nd.height.toNat by omega]
    exact h2
  clear h ht hc hf hj hW
  go_enter Tryd.func26, Tryd.ntmps26
  go_wp2_with fail
  go_loopg [4, 0] (c.nd.height.toNat - t) (fun n vs v wr => AbInv M (x : Int) t W n vs v wr)
  case atStart => exact ⟨x, c, _, rfl, HC.out, rfl, ST.out, by
    have h1 := CL.out
    have h3 := (List.getElem?_eq_some_iff.1 ST.out).1
    have h4 := (List.getElem?_eq_some_iff.1 HJ.out).1
    rw [show (chainT (ndM M) (x : Int)).length - 1 - (t + (c.nd.height.toNat - t)) = 0 by omega]
    exact HsOwn.nil _ _, Below.refl _ _⟩
  case round =>
    clear ST
    obtain ⟨i, g, tv, rfl, hg, rfl, hgc, ho, hb⟩ := hrel
    have GI := Lib.hid hg
    have GC := Lib.hid hgc
    have HO := Lib.hid ho
    have B := Lib.hid hb
    clear hgc ho hb
    by_cases h0 : gk = 0
    · subst h0
      have e : (j : Int) = (i : Int) := by
        have e1 := GC.out
        rw [Nat.add_zero, HJ.out] at e1
        injection e1
      obtain rfl : j = i := by omega
      rw [HF.out] at hg
      obtain rfl : f = g := by injection hg
      clear e GI
      have hq := neq_node_same f.ad wr
      go_wp2_with fail
      go_ret
      exact ⟨_, rfl, HO.out, B.out⟩
    · obtain ⟨n, rfl⟩ : ∃ n, gk = n + 1 := ⟨gk - 1, by omega⟩
      have hij : i ≠ j := fun e => by
        obtain ⟨i1, y1, e1, l1, q1⟩ := chain_ok TR.out (ndM_at HC.out) GC.out
        obtain ⟨i2, y2, e2, l2, q2⟩ := chain_ok TR.out (ndM_at HC.out) HJ.out
        obtain rfl : i1 = i2 := by omega
        rw [l1] at l2
        obtain rfl : y1 = y2 := by injection l2
        omega
      have hT := HT.out.below (HW.out.trans (B.out.mono HW.out.size))
      have hqq := neq_node_other (HT.out.far2 hg HF.out hij) (hT.node _ _ hg) (hT.node _ _ HF.out)
      clear hT
      obtain ⟨p, z, p1, p2, p3⟩ := chain_prev TR.out (ndM_at HC.out) (t := t + n) GC.out (ndM_at hg)
      obtain ⟨q, hq, _⟩ := ndM_get p2
      have okx := TR.out.ok _ (List.mem_of_getElem? (ndM_at hg))
      have CP : Hid (∀ U, Below W.heap.size W U → U.cell? ⟨g.ad, 102, none⟩ = some (.pointer (some ⟨q.ad, 0, none⟩))) := fun U hU => by
        have h := (HT.out.cells TR.out hg (HW.out.trans (hU.mono HW.out.size))).2.2.1
        rw [p1, cnP_at hq] at h
        exact h
      obtain ⟨ix, hix⟩ : ∃ ix, ix = g.nd.id := ⟨_, rfl⟩
      have RI := Lib.hid (HT.out.idr hg (HW.out.trans (B.out.mono HW.out.size)))
      rw [← hix] at RI
      have LX : Hid (ix.length = 32) := by show _ = _; rw [hix]; exact okx.1
      have LI : Hid ((ix.map bV).length = 32) := by show _ = _; rw [List.length_map]; exact LX.out
      have CO : Hid (∀ u ∈ ix.map bV, u.oneCell' = true) := bV_one' _
      have NX : Hid (idsT (ndM M) ((upL (ndM M) (x : Int)).take ((chainT (ndM M) (x : Int)).length - 1 - (t + n))) = idsT (ndM M) ((upL (ndM M) (x : Int)).take ((chainT (ndM M) (x : Int)).length - 1 - (t + (n + 1)))) ++ [ix]) := by
        have hl := (List.getElem?_eq_some_iff.1 GC.out).1
        have e1 : (upL (ndM M) (x : Int))[(chainT (ndM M) (x : Int)).length - 1 - (t + (n + 1))]? = some (i : Int) := by
          rw [up_chain (by omega), ← GC.out]
          congr 1
          omega
        show _ = _
        rw [show (chainT (ndM M) (x : Int)).length - 1 - (t + n) = (chainT (ndM M) (x : Int)).length - 1 - (t + (n + 1)) + 1 by omega, idsT_succ e1, getD_int (ndM_at hg), hix]
      obtain ⟨lst, hlst⟩ : ∃ lst, lst = idsT (ndM M) ((upL (ndM M) (x : Int)).take ((chainT (ndM M) (x : Int)).length - 1 - (t + (n + 1)))) := ⟨_, rfl⟩
      have DL : Hid (lst.length ≤ 4096) := by
        have := CL.out
        show _ ≤ _
        rw [hlst]
        unfold idsT
        rw [List.length_map, List.length_take]
        omega
      rw [← hlst] at HO NX
      obtain ⟨ci, hci⟩ : ∃ ci, ci = ix.map bV := ⟨_, rfl⟩
      rw [← hci] at RI LI CO
      have CIE := Lib.hid hci
      have QM := Lib.hid hq
      have P3 := Lib.hid p3
      clear hg hij p1 p2 p3 hq okx hix hci hlst h0
      go_wp2_with (first | ((with_reducible show wpList _ _ _ _ _ _); first | (refine wpList_load_mid rfl 30 (.tmp 15) rfl g.ad 0 rfl ci _ RI.out Tryd.underlying30 rfl (by rw [LI.out]; kernel_rfl) ?_; go_frame) | (refine wpList_slice_one rfl 38 30 (.tmp 16) rfl ci rfl Tryd.underlying38 i0 _ hi hz0 (by rw [hz1, LI.out]) (by rw [LI.out]; omega) (by rw [LI.out]; omega) ?_; have nf := heap_alloc_new wr (.cells (ci).toArray 30 (0, 0)); have bb := (Below.refl wr.heap.size wr).alloc (Nat.le_refl _) (.cells (ci).toArray 30 (0, 0)); obtain ⟨gn, hgn⟩ : ∃ g, g = wr.heap.size := ⟨_, rfl⟩; generalize hq : World.alloc _ _ = w2; have e2 : wr.alloc (.cells (ci).toArray 30 (0, 0)) = w2 := hq; rw [e2] at nf bb; rw [← hgn] at nf ⊢; have NF := Lib.hid nf; have HO2 := Lib.hid (HO.out.keep bb); have B2 := Lib.hid (B.out.trans (bb.mono B.out.size)); clear nf bb hq e2 hgn; go_frame)) | (at_builtin; refine wpList_append_own_at _ rfl _ _ 38 rfl W.heap.size 30 i0 (.agg (List.replicate 32 (bV 0)).toArray) 32 32 Tryd.underlying38 hi hz0 hz1 hz2 (by kernel_rfl) (by decide) tv _ (hsL lst) rfl HO2.out.1 ⟨gn, 0, none⟩ 1 1 ci rfl (by rw [LI.out]) (fun j u hj => by rw [Addr.add_mid]; exact range_of_box NF.out j u hj) CO.out (by have := DL.out; unfold maxLen; omega) (by have := DL.out; omega) B2.out.size ?_; intro v3 w3 q1 q2 _ q4; have HO3 : Hid (HsOwn W.heap.size w3 v3 (lst ++ [ix])) := HsOwn.push HO2.out.2 LX.out (by rw [← CIE.out]; exact q1); have B3 := Lib.hid (own_grown B2.out (Nat.le_refl _) B2.out.size HO2.out.1 q2); have c102 := CP.out _ B3.out; clear q1 q2 q4; go_frame))
      go_roundg n
      case measure => omega
      case rel => exact ⟨p, q, _, rfl, QM.out, rfl, P3.out, by rw [NX.out]; exact HO3.out, B3.out⟩
end Go.Proofs.YtnhmjlljnckieaaDoor.Sha

/-
  Rows of transactions, and blocks, as the model has them: four cells each behind a slice; a header's cells and a slice. No conditions.
-/
namespace Go.Proofs.YtnhmjlljnckieaaDoor.Sha
open Go Go.RowKit
/-- A transaction stands in block b from o on. -/
def TxIn (w : World) (b o : Nat) (t : TTx) : Prop := TxOk t ∧ ∃ iv ov, w.rangeAt b o (txL t iv ov) ∧ InsAt w iv t.ins ∧ OutsAt w ov t.outs
theorem TxIn.below {w w' : World} {b o : Nat} {t : TTx} (h : TxIn w b o t) (hb : Below w.heap.size w w') : TxIn w' b o t := by
  obtain ⟨h0, iv, ov, h1, h2, h3⟩ := h
  exact ⟨h0, iv, ov, range_below h1 hb, h2.below hb, h3.below hb⟩
/-- A row of transactions behind a slice. -/
def TxsAt (w : World) (v : Value) (l : List TTx) : Prop :=
  ∃ sp cap, v = .slice sp l.length cap ∧ l.length ≤ cap ∧ (0 < l.length → ∃ b o, sp = some ⟨b, o, none⟩ ∧ ∀ i t, l[i]? = some t → TxIn w b (o + i * 4) t)
theorem TxsAt.below {w w' : World} {v : Value} {l : List TTx} (h : TxsAt w v l) (hb : Below w.heap.size w w') : TxsAt w' v l := by
  obtain ⟨sp, cap, h1, h2, h3⟩ := h
  refine ⟨sp, cap, h1, h2, fun h0 => ?_⟩
  obtain ⟨b, o, h4, h5⟩ := h3 h0
  exact ⟨b, o, h4, fun i x hx => (h5 i x hx).below hb⟩
theorem TxsAt.nil (w : World) (sp : Option Addr) (cap : Nat) : TxsAt w (.slice sp 0 cap) [] := ⟨sp, cap, rfl, Nat.zero_le _, fun h => absurd h (by simp)⟩
theorem TxsAt.shape {w : World} {v : Value} {l : List TTx} (h : TxsAt w v l) : ∃ sp cap, v = .slice sp l.length cap := by
  obtain ⟨sp, cap, h1, _⟩ := h
  exact ⟨sp, cap, h1⟩
theorem TxsAt.len {w : World} {sp : Option Addr} {n cap : Nat} {l : List TTx} (h : TxsAt w (.slice sp n cap) l) : n = l.length ∧ n ≤ cap := by
  obtain ⟨sp', cap', h1, h2, _⟩ := h
  cases h1
  exact ⟨rfl, h2⟩
/-- One of them, by its place. -/
theorem TxsAt.get {w : World} {sp : Option Addr} {n cap : Nat} {l : List TTx} (h : TxsAt w (.slice sp n cap) l) (h0 : 0 < n) :
    ∃ b o, sp = some ⟨b, o, none⟩ ∧ b < w.heap.size ∧ ∀ i t, l[i]? = some t → ∃ iv ov, w.rangeAt b (o + i * 4) (txL t iv ov) ∧ TxAt w (.agg (txL t iv ov).toArray) t := by
  obtain ⟨sp', cap', h1, h2, h3⟩ := h
  cases h1
  obtain ⟨b, o, rfl, h5⟩ := h3 h0
  refine ⟨b, o, rfl, ?_, fun i t ht => ?_⟩
  · obtain ⟨_, iv, ov, h6, _⟩ := h5 0 (l[0]) (List.getElem?_eq_getElem h0)
    exact World.block_lt_of_cell? w _ (h6 0 _ rfl)
  · obtain ⟨a, iv, ov, h6, h7, h8⟩ := h5 i t ht
    exact ⟨iv, ov, h6, a, iv, ov, rfl, h7, h8⟩
/-- A block: a header, and transactions. -/
structure TBlk where
  head : THd
  txs : List TTx
/-- A block's cells. -/
def blL (h : THd) (tv : Value) : List Value := hdL h ++ [tv]
theorem blL_length {h : THd} (hh : HdOk h) (tv : Value) : (blL h tv).length = 69 := by simp [blL, hdL_length hh]
theorem blL_size {h : THd} (hh : HdOk h) (tv : Value) : (blL h tv).toArray.size = 69 := by simp [blL, hdL_length hh]
/-- A block by value. -/
def BlkAt (w : World) (v : Value) (x : TBlk) : Prop := HdOk x.head ∧ ∃ tv, v = .agg (blL x.head tv).toArray ∧ TxsAt w tv x.txs
theorem BlkAt.below {w w' : World} {v : Value} {x : TBlk} (h : BlkAt w v x) (hb : Below w.heap.size w w') : BlkAt w' v x := by
  obtain ⟨h0, tv, h1, h2⟩ := h
  exact ⟨h0, tv, h1, h2.below hb⟩
/-- A block in a box. -/
structure BlBox (w : World) (g : Nat) (h : THd) (tv : Value) : Prop where
  row : w.heap[g]? = some (.cells (blL h tv).toArray 50 (0, 0))
theorem BlBox.below {w w' : World} {g : Nat} {h : THd} {tv : Value} (k : BlBox w g h tv) (hb : Below w.heap.size w w') : BlBox w' g h tv := ⟨row_below k.row hb⟩
theorem BlBox.range {w : World} {g : Nat} {h : THd} {tv : Value} (k : BlBox w g h tv) : w.rangeAt g 0 (blL h tv) := fun j v hj => by
  rw [Nat.zero_add, cell_of_row _ _ _ _ _ _ k.row]
  simpa using hj
theorem BlBox.lt {w : World} {g : Nat} {h : THd} {tv : Value} (k : BlBox w g h tv) : g < w.heap.size := (Array.getElem?_eq_some_iff.1 k.row).1
/-- The header's cells in a block's box. -/
theorem BlBox.head {w : World} {g : Nat} {h : THd} {tv : Value} (k : BlBox w g h tv) : w.rangeAt g 0 (hdL h) := fun j v hj => k.range j v (by
  rw [blL, List.getElem?_append_left (List.getElem?_eq_some_iff.1 hj).1]
  exact hj)
theorem BlBox.root {w : World} {g : Nat} {h : THd} {tv : Value} (k : BlBox w g h tv) (hh : HdOk h) : w.rangeAt g 33 (h.root.map bV) := by
  have := hd_root hh k.head
  rwa [Nat.zero_add] at this
theorem BlBox.txs {w : World} {g : Nat} {h : THd} {tv : Value} (k : BlBox w g h tv) (hh : HdOk h) : w.cell? ⟨g, 68, none⟩ = some tv := by
  have := k.range 68 tv (by rw [blL, List.getElem?_append_right (by rw [hdL_length hh]; exact Nat.le_refl _), hdL_length hh]; rfl)
  rwa [Nat.zero_add] at this
theorem blL_one {h : THd} {tv : Value} (ht : tv.oneCell' = true) : (blL h tv).toArray.all (·.oneCell') = true := by
  rw [Array.all_eq_true_iff_forall_mem]
  intro u hu
  rw [List.mem_toArray, blL, List.mem_append, List.mem_singleton] at hu
  rcases hu with hu | rfl
  · exact hdL_one' h u hu
  · exact ht
theorem TxsAt.one {w : World} {tv : Value} {l : List TTx} (h : TxsAt w tv l) : tv.oneCell' = true := by
  obtain ⟨sp, cap, rfl, _⟩ := h
  rfl
end Go.Proofs.YtnhmjlljnckieaaDoor.Sha

/-
  A store into a header's box turns just that part. Conditions: digests of 32 bytes.
-/
namespace Go.Proofs.YtnhmjlljnckieaaDoor.Sha
open Go Go.RowKit
/-- The header of zeros. -/
def hdZ : THd := ⟨0, List.replicate 32 0, List.replicate 32 0, 0, 0, 0⟩
theorem hdZ_ok : HdOk hdZ := ⟨by simp [hdZ], by simp [hdZ], by simp [hdZ], by simp [hdZ], by simp [hdZ], by simp [hdZ]⟩
theorem hd_zero : Tryd.zeroCells32 = (hdL hdZ).toArray := by kernel_rfl
theorem nV_ones (n : Nat) : ∀ u ∈ [nV n], u.oneCell' = true := by
  intro u hu
  simp only [List.mem_cons, List.not_mem_nil, or_false] at hu
  subst hu
  rfl
theorem HdBox.far {w w' : World} {g q : Nat} {h : THd} (k : HdBox w g h) (hg : w.grownBy w' (some q)) (hq : q ≠ g) : HdBox w' g h := ⟨row_far k.row hg (fun e => hq (Option.some.inj e))⟩
section
variable {ops : Array Oper} {rest : List Oper} {op : Oper} {a : Act} {w : World} {Q : Exit → Act → World → Prop} {g : Nat} {h : THd}
theorem st_ver (hgd : op.guard = none) (x y : Operand) (ho : op.op = .store 28 x y) (hx : a.eval x = .pointer (some ⟨g, 0, none⟩)) (n : Nat) (hy : a.eval y = nV n) (hh : HdOk h) (k : HdBox w g h)
    (hK : ∀ w', HdBox w' g { h with ver := n } → w.grownBy w' (some g) → wpList Tryd.prog ops Q rest (a.put op.dst undef) w') : wpList Tryd.prog ops Q (op :: rest) a w := by
  refine wpList_store_part hgd 28 x y ho g 0 [] [nV h.ver] (h.prev.map bV ++ (h.root.map bV ++ [nV h.time, nV h.work, nV h.nonce])) [nV n] 32 (nV n) hx hy rfl (by simp [hh.2.1, hh.2.2.1]) (by simp) (by rw [k.row]; simp [hdL]) (by kernel_rfl) (nV_ones n) ?_
  intro w' q1 q2
  exact hK w' ⟨by rw [q1]; simp [hdL]⟩ q2
theorem st_prev (hgd : op.guard = none) (x y : Operand) (ho : op.op = .store 30 x y) (hx : a.eval x = .pointer (some ⟨g, 1, none⟩)) (p : List UInt8) (hp : p.length = 32) (hy : a.eval y = .agg (p.map bV).toArray) (hh : HdOk h) (k : HdBox w g h)
    (hK : ∀ w', HdBox w' g { h with prev := p } → w.grownBy w' (some g) → wpList Tryd.prog ops Q rest (a.put op.dst undef) w') : wpList Tryd.prog ops Q (op :: rest) a w := by
  refine wpList_store_part hgd 30 x y ho g 1 [nV h.ver] (h.prev.map bV) (h.root.map bV ++ [nV h.time, nV h.work, nV h.nonce]) (p.map bV) 32 (.agg (p.map bV).toArray) hx hy rfl (by simp [hh.2.1, hh.2.2.1]) (by simp [hp, hh.2.1, hh.2.2.1]) (by rw [k.row]; simp [hdL]) (by rw [List.length_map, hp]; kernel_rfl) (bV_one' p) ?_
  intro w' q1 q2
  exact hK w' ⟨by rw [q1]; simp [hdL]⟩ q2
theorem st_root (hgd : op.guard = none) (x y : Operand) (ho : op.op = .store 30 x y) (hx : a.eval x = .pointer (some ⟨g, 33, none⟩)) (p : List UInt8) (hp : p.length = 32) (hy : a.eval y = .agg (p.map bV).toArray) (hh : HdOk h) (k : HdBox w g h)
    (hK : ∀ w', HdBox w' g { h with root := p } → w.grownBy w' (some g) → wpList Tryd.prog ops Q rest (a.put op.dst undef) w') : wpList Tryd.prog ops Q (op :: rest) a w := by
  refine wpList_store_part hgd 30 x y ho g 33 (nV h.ver :: h.prev.map bV) (h.root.map bV) [nV h.time, nV h.work, nV h.nonce] (p.map bV) 32 (.agg (p.map bV).toArray) hx hy rfl (by simp [hh.2.1, hh.2.2.1]) (by simp [hp, hh.2.1, hh.2.2.1]) (by rw [k.row]; simp [hdL]) (by rw [List.length_map, hp]; kernel_rfl) (bV_one' p) ?_
  intro w' q1 q2
  exact hK w' ⟨by rw [q1]; simp [hdL]⟩ q2
theorem st_time (hgd : op.guard = none) (x y : Operand) (ho : op.op = .store 28 x y) (hx : a.eval x = .pointer (some ⟨g, 65, none⟩)) (n : Nat) (hy : a.eval y = nV n) (hh : HdOk h) (k : HdBox w g h)
    (hK : ∀ w', HdBox w' g { h with time := n } → w.grownBy w' (some g) → wpList Tryd.prog ops Q rest (a.put op.dst undef) w') : wpList Tryd.prog ops Q (op :: rest) a w := by
  refine wpList_store_part hgd 28 x y ho g 65 (nV h.ver :: (h.prev.map bV ++ h.root.map bV)) [nV h.time] [nV h.work, nV h.nonce] [nV n] 32 (nV n) hx hy rfl (by simp [hh.2.1, hh.2.2.1]) (by simp) (by rw [k.row]; simp [hdL]) (by kernel_rfl) (nV_ones n) ?_
  intro w' q1 q2
  exact hK w' ⟨by rw [q1]; simp [hdL]⟩ q2
theorem st_work (hgd : op.guard = none) (x y : Operand) (ho : op.op = .store 28 x y) (hx : a.eval x = .pointer (some ⟨g, 66, none⟩)) (n : Nat) (hy : a.eval y = nV n) (hh : HdOk h) (k : HdBox w g h)
    (hK : ∀ w', HdBox w' g { h with work := n } → w.grownBy w' (some g) → wpList Tryd.prog ops Q rest (a.put op.dst undef) w') : wpList Tryd.prog ops Q (op :: rest) a w := by
  refine wpList_store_part hgd 28 x y ho g 66 (nV h.ver :: (h.prev.map bV ++ (h.root.map bV ++ [nV h.time]))) [nV h.work] [nV h.nonce] [nV n] 32 (nV n) hx hy rfl (by simp [hh.2.1, hh.2.2.1]) (by simp) (by rw [k.row]; simp [hdL]) (by kernel_rfl) (nV_ones n) ?_
  intro w' q1 q2
  exact hK w' ⟨by rw [q1]; simp [hdL]⟩ q2
theorem st_nonce (hgd : op.guard = none) (x y : Operand) (ho : op.op = .store 28 x y) (hx : a.eval x = .pointer (some ⟨g, 67, none⟩)) (n : Nat) (hy : a.eval y = nV n) (hh : HdOk h) (k : HdBox w g h)
    (hK : ∀ w', HdBox w' g { h with nonce := n } → w.grownBy w' (some g) → wpList Tryd.prog ops Q rest (a.put op.dst undef) w') : wpList Tryd.prog ops Q (op :: rest) a w := by
  refine wpList_store_part hgd 28 x y ho g 67 (nV h.ver :: (h.prev.map bV ++ (h.root.map bV ++ [nV h.time, nV h.work]))) [nV h.nonce] [] [nV n] 32 (nV n) hx hy rfl (by simp [hh.2.1, hh.2.2.1]) (by simp) (by rw [k.row]; simp [hdL]) (by kernel_rfl) (nV_ones n) ?_
  intro w' q1 q2
  exact hK w' ⟨by rw [q1]; simp [hdL]⟩ q2
end
end Go.Proofs.YtnhmjlljnckieaaDoor.Sha

/-
  Stores into one part of a block's box; the zero block; one transaction in a row. No conditions beyond those that each states.
-/
namespace Go.Proofs.YtnhmjlljnckieaaDoor.Sha
open Go Go.RowKit
theorem bl_zero : Tryd.zeroCells50 = (blL hdZ (.slice none 0 0)).toArray := by kernel_rfl
theorem info_txc : (Tryd.prog.info? 81).map (fun i => (i.zero, i.size, i.bytes)) = some (some (.agg [nV 0, .slice none 0 0, .slice none 0 0, nV 0].toArray), 4, 64) := by kernel_rfl
section
variable {ops : Array Oper} {rest : List Oper} {op : Oper} {a : Act} {w : World} {Q : Exit → Act → World → Prop} {g : Nat} {h : THd} {tv : Value}
theorem st_blroot (hgd : op.guard = none) (x y : Operand) (ho : op.op = .store 30 x y) (hx : a.eval x = .pointer (some ⟨g, 33, none⟩)) (p : List UInt8) (hp : p.length = 32) (hy : a.eval y = .agg (p.map bV).toArray) (hh : HdOk h) (k : BlBox w g h tv)
    (hK : ∀ w', BlBox w' g { h with root := p } tv → w.grownBy w' (some g) → wpList Tryd.prog ops Q rest (a.put op.dst undef) w') : wpList Tryd.prog ops Q (op :: rest) a w := by
  refine wpList_store_part hgd 30 x y ho g 33 (nV h.ver :: h.prev.map bV) (h.root.map bV) [nV h.time, nV h.work, nV h.nonce, tv] (p.map bV) 50 (.agg (p.map bV).toArray) hx hy rfl (by simp [hh.2.1]) (by simp [hp, hh.2.2.1]) (by rw [k.row]; simp [blL, hdL]) (by rw [List.length_map, hp]; kernel_rfl) (bV_one' p) ?_
  intro w' q1 q2
  exact hK w' ⟨by rw [q1]; simp [blL, hdL]⟩ q2
theorem st_bltxs (hgd : op.guard = none) (x y : Operand) (ho : op.op = .store 48 x y) (hx : a.eval x = .pointer (some ⟨g, 68, none⟩)) (u : Value) (hy : a.eval y = u) (h1 : u.oneCell' = true) (hh : HdOk h) (k : BlBox w g h tv)
    (hK : ∀ w', BlBox w' g h u → w.grownBy w' (some g) → wpList Tryd.prog ops Q rest (a.put op.dst undef) w') : wpList Tryd.prog ops Q (op :: rest) a w := by
  refine wpList_store_part hgd 48 x y ho g 68 (hdL h) [tv] [] [u] 50 u hx hy (cells_one h1) (hdL_length hh) rfl (by rw [k.row]; simp [blL]) (by kernel_rfl) (by intro v hv; rw [List.mem_singleton] at hv; rw [hv]; exact h1) ?_
  intro w' q1 q2
  exact hK w' ⟨by rw [q1]; simp [blL]⟩ q2
end
theorem BlBox.far {w w' : World} {g : Nat} {h : THd} {tv : Value} {q : Option Nat} (k : BlBox w g h tv) (hg : w.grownBy w' q) (hq : q ≠ some g) : BlBox w' g h tv := ⟨row_far k.row hg hq⟩
/-- A row of one. -/
theorem txsAt_one {w : World} {g : Nat} {t : TTx} {iv ov : Value} {fr : Nat × Nat} (h : w.heap[g]? = some (.cells (txL t iv ov).toArray 81 fr)) (ht : TxAt w (.agg (txL t iv ov).toArray) t) : TxsAt w (.slice (some ⟨g, 0, none⟩) 1 1) [t] := by
  obtain ⟨h0, iv', ov', e, h1, h2⟩ := ht
  have e : txL t iv ov = txL t iv' ov' := by simpa using e
  refine ⟨_, _, rfl, Nat.le_refl _, fun _ => ⟨g, 0, rfl, fun i u hu => ?_⟩⟩
  obtain ⟨rfl, rfl⟩ : i = 0 ∧ t = u := by
    cases i with
    | zero => exact ⟨rfl, by simpa using hu⟩
    | succ i => simp at hu
  refine ⟨h0, iv', ov', fun j v hj => ?_, h1, h2⟩
  rw [cell_of_row _ _ _ _ _ _ h, List.getElem?_toArray, e]
  simpa using hj
end Go.Proofs.YtnhmjlljnckieaaDoor.Sha

/-
  Package tx takes a transaction from a Reader. Nothing that was there turns but the Reader. Conditions: the Reader stands as it should; the errors are there.
-/
namespace Go.Proofs.YtnhmjlljnckieaaDoor.Sha
open Go Go.RowKit
theorem noTx_any (w : World) : TxAt w (.agg [nV 0, .slice none 0 0, .slice none 0 0, nV 0].toArray) noTx :=
  ⟨⟨by simp [noTx], by simp [noTx]⟩, .slice none 0 0, .slice none 0 0, rfl, ⟨none, 0, rfl, by simp [noTx], fun h => absurd h (by simp [noTx])⟩, ⟨none, 0, rfl, by simp [noTx], fun h => absurd h (by simp [noTx])⟩⟩
end Go.Proofs.YtnhmjlljnckieaaDoor.Sha

/-
  Package tx reads a transaction out of bytes. Nothing that was there turns. Conditions: the bytes lie where the slice says; the errors are there.
-/
namespace Go.Proofs.YtnhmjlljnckieaaDoor.Sha
open Go Go.RowKit
theorem readTx_take (bs : List UInt8) (t0 : TTx) (b : List UInt8) (d : Nat) (h : takeTx bs 0 = (t0, b, d)) : readTx bs = if d ≠ 0 then (noTx, d) else if b ≠ [] then (noTx, 2) else (t0, 0) := by
  obtain ⟨p, hp⟩ : ∃ p, txP bs 0 = p := ⟨_, rfl⟩
  obtain ⟨a, r, c⟩ := p
  unfold takeTx at h
  unfold readTx
  rw [hp] at h ⊢
  by_cases hc : c = 0
  · subst hc
    rw [if_pos rfl] at h
    cases h
    rfl
  · rw [if_neg (show ¬ (a, r, c).2.2 = 0 from hc)] at h
    cases h
    rw [if_pos (show (a, b, d).2.2 ≠ 0 from hc), if_pos hc]
/-- What a Reader's bytes are as a transaction. -/
structure TakeIs (bs : List UInt8) (t : TTx) (b : List UInt8) (d : Nat) : Prop where
  eq : takeTx bs 0 = (t, b, d)
end Go.Proofs.YtnhmjlljnckieaaDoor.Sha

/-
  A whole box written, the new world hidden; what a loop that climbs keeps. No conditions.
-/
namespace Go.Proofs.YtnhmjlljnckieaaDoor.Sha
open Go Go.RowKit
/-- Where the leaf, the answer lie. -/
structure ClAt (w : World) (g : Nat) (lf : List UInt8) (wr : World) : Prop where
  leaf : wr.heap[g]? = some (.cells (lf.map bV).toArray 30 (0, 0))
  zero : wr.heap[g + 1]? = some (.cells (zM.map bV).toArray 30 (0, 0))
  low : Below w.heap.size w wr
  lo : w.heap.size ≤ g
theorem ClAt.below {w : World} {g : Nat} {lf : List UInt8} {wr w' : World} (h : ClAt w g lf wr) (hb : Below wr.heap.size wr w') : ClAt w g lf w' :=
  ⟨row_below h.leaf hb, row_below h.zero hb, h.low.trans (hb.mono h.low.size), h.lo⟩
theorem ClAt.turn {w : World} {g : Nat} {lf lf' : List UInt8} {wr w' : World} (h : ClAt w g lf wr) (hn : w'.heap[g]? = some (.cells (lf'.map bV).toArray 30 (0, 0))) (hg : wr.grownBy w' (some g)) : ClAt w g lf' w' :=
  ⟨hn, row_far h.zero hg (fun e => by have := Option.some.inj e; omega), h.low.grown hg h.low.size (fun k hk => by cases hk; exact h.lo), h.lo⟩
def climbInv (R : List UInt8) (p : List (List UInt8)) (w : World) (g : Nat) (va vi : Value) (wr : World) : Prop :=
  ∃ (k j : Nat) (lf : List UInt8), vi = .int .i64 j ∧ va = .int .i64 k ∧ j ≤ p.length ∧ k ≤ 1048576 ∧ climbL prH lf k (p.drop j) = R ∧ lf.length = 32 ∧ ClAt w g lf wr
theorem climb_step {R lf x : List UInt8} {p : List (List UInt8)} {k j : Nat} (h : climbL prH lf k (p.drop j) = R) (hj : j < p.length) (hx : x = p.getD j []) :
    climbL prH (if k % 2 = 0 then prH lf x else prH x lf) (k / 2) (p.drop (j + 1)) = R := by
  rw [List.drop_eq_getElem_cons hj, climbL] at h
  rw [hx, List.getD_eq_getElem?_getD, List.getElem?_eq_getElem hj]
  exact h
end Go.Proofs.YtnhmjlljnckieaaDoor.Sha

/-
  Package block makes the first transaction of a block. New memory; nothing that was there turns. Condition: the bytes that are added lie where the slice says.
-/
namespace Go.Proofs.YtnhmjlljnckieaaDoor.Sha
open Go Go.RowKit
theorem built_outl (v : Nat) (l : List UInt8) (hl : l.length = 32) : Tryd.prog.built 93 [(0, .int .u64 (v : Int)), (1, .agg (l.map bV).toArray)] = some (outL ⟨v, l⟩).toArray := by
  have hz : ∀ parts, Tryd.prog.built 93 parts = Instr.fill ([(0, 1), (1, 32)].toArray[·]?) (uV 0 :: List.replicate 32 (bV 0)).toArray parts := fun parts => by kernel_rfl
  have hm : (l.map bV).length = 32 := by simp [hl]
  rw [hz, fill_part _ 0 0 (.int .u64 (v : Int)) [uV v] _ _ rfl rfl (by simp), fill_part _ 1 1 (.agg (l.map bV).toArray) (l.map bV) _ _ rfl (by rw [hm]; rfl) (by rw [hm]; simp)]
  have e : ∀ A : List Value, A.length ≤ 33 → A.drop (1 + (l.map bV).length) = [] := fun A hA => List.drop_of_length_le (by rw [hm]; omega)
  rw [e _ (by simp), List.append_nil]
  rfl
/-- The first transaction of a block. -/
def firstX (h32 : Nat) (ex : List UInt8) : TIn := ⟨zH, 4294967295, leB h32 4 ++ ex, 4294967295⟩
def firstT (h32 val : Nat) (lock ex : List UInt8) : TTx := ⟨1, [firstX h32 ex], [⟨val, lock⟩], 0⟩
theorem firstX_ok {h32 : Nat} (ex : List UInt8) (_ : h32 ≤ 4294967295) : InOk (firstX h32 ex) := ⟨zH_length, by show 4294967295 ≤ _; omega, by show 4294967295 ≤ _; omega⟩
end Go.Proofs.YtnhmjlljnckieaaDoor.Sha

/-
  Plain mathematics of a block's bytes: what was written is read again; cut off it ends too early; longer it is none; what is read has just these bytes. No conditions beyond those that each states.
-/
namespace Go.Proofs.YtnhmjlljnckieaaDoor.Sha
open Go Go.RowKit
def txsB (l : List TTx) : List UInt8 := l.flatMap txB
def blkB (x : TBlk) : List UInt8 := hdB x.head ++ putL x.txs.length ++ txsB x.txs
theorem txsB_cons (t : TTx) (l : List TTx) : txsB (t :: l) = txB t ++ txsB l := rfl
theorem txsB_snoc {l : List TTx} {k : Nat} {t : TTx} (h : l[k]? = some t) : txsB (l.take (k + 1)) = txsB (l.take k) ++ txB t := by
  unfold txsB
  rw [List.take_add_one, h, List.flatMap_append]
  simp
theorem txsB_part {l : List TTx} {k : Nat} {t : TTx} (h : l[k]? = some t) : (txsB (l.take k)).length + (txB t).length ≤ (txsB l).length := by
  have e : txsB l = txsB (l.take (k + 1)) ++ txsB (l.drop (k + 1)) := by unfold txsB; rw [← List.flatMap_append, List.take_append_drop]
  rw [e, txsB_snoc h]
  simp only [List.length_append]
  omega
def blkP : Par TBlk := thenP takeHd fun h => thenP (numL 200) fun n => mapP (fun l => ⟨h, l⟩) (manyP takeTx n)
def noBlk : TBlk := ⟨noHd, []⟩
/-- Bytes as a block, or what is amiss. -/
def readBlk (bs : List UInt8) : TBlk × Nat := if (blkP bs 0).2.2 ≠ 0 then (noBlk, (blkP bs 0).2.2) else if (blkP bs 0).2.1 ≠ [] then (noBlk, 2) else ((blkP bs 0).1, 0)
/-- A reader that answers z once an error is met. -/
def noErr {α : Type} (z : α) (p : Par α) : Par α := fun bs c => if (p bs c).2.2 = 0 then p bs c else (z, (p bs c).2)
section
variable {α : Type} {z a : α} {p : Par α} {x : List UInt8}
theorem stay_noErr (h : Stay p) : Stay (noErr z p) := fun bs c hc => by
  have e := h bs c hc
  unfold noErr
  rw [if_neg (by rw [e]; exact hc)]
  exact e
theorem good_noErr (h : Good p a x) : Good (noErr z p) a x := by
  refine ⟨fun y => ?_, fun k hk => ?_⟩
  · unfold noErr
    rw [h.1 y, if_pos rfl]
  · have e := h.2 k hk
    unfold noErr
    rw [if_neg (by rw [e]; omega)]
    exact e
theorem back_noErr {R : α → List UInt8 → Prop} (h : BackR p R) : BackR (noErr z p) R := fun bs a r e => by
  unfold noErr at e
  split at e
  · exact h bs a r e
  · rename_i h
    exact absurd (congrArg (fun p : α × List UInt8 × Nat => p.2.2) e) h
end
theorem takeHd_eq : takeHd = noErr noHd hdP := rfl
theorem takeTx_eq : takeTx = noErr noTx txP := rfl
theorem stay_takeHd : Stay takeHd := takeHd_eq ▸ stay_noErr stay_hd
theorem stay_takeTx : Stay takeTx := takeTx_eq ▸ stay_noErr stay_tx
theorem good_takeHd (h : THd) (hh : HdOk h) : Good takeHd h (hdB h) := takeHd_eq ▸ good_noErr (good_hd h hh)
theorem good_takeTx (t : TTx) (h : TxRead t) : Good takeTx t (txB t) := takeTx_eq ▸ good_noErr (good_tx t h)
theorem back_hd : BackR hdP (fun h x => x = hdB h ∧ HdOk h) := by
  refine BackR.weak ((back_le 4).andThen (fun v => (back_take 32).andThen (fun p => (back_take 32).andThen (fun r => (back_le 4).andThen (fun t => (back_le 4).andThen (fun w => (back_le 4).map _) (fun _ => (stay_le 4).map _)) (fun _ => (stay_le 4).andThen fun _ => (stay_le 4).map _)) (fun _ => (stay_le 4).andThen fun _ => (stay_le 4).andThen fun _ => (stay_le 4).map _)) (fun _ => (stay_take 32).andThen fun _ => (stay_le 4).andThen fun _ => (stay_le 4).andThen fun _ => (stay_le 4).map _)) (fun _ => (stay_take 32).andThen fun _ => (stay_take 32).andThen fun _ => (stay_le 4).andThen fun _ => (stay_le 4).andThen fun _ => (stay_le 4).map _)) ?_
  rintro a x ⟨v, x1, x2, rfl, ⟨rfl, hv⟩, p, x3, x4, rfl, ⟨rfl, hp⟩, r, x5, x6, rfl, ⟨rfl, hr⟩, t, x7, x8, rfl, ⟨rfl, ht⟩, w, x9, x10, rfl, ⟨rfl, hw⟩, n, rfl, rfl, hn⟩
  rw [padH_all hp, padH_all hr]
  exact ⟨by simp only [hdB, List.append_assoc], Nat.le_of_lt_succ hv, hp, hr, Nat.le_of_lt_succ ht, Nat.le_of_lt_succ hw, Nat.le_of_lt_succ hn⟩
theorem back_takeHd : BackR takeHd (fun h x => x = hdB h ∧ HdOk h) := takeHd_eq ▸ back_noErr back_hd
theorem back_takeTx : BackR takeTx (fun t x => x = txB t ∧ TxRead t) := takeTx_eq ▸ back_noErr back_tx
/-- What a block must be to be read again. -/
def BlkRead (x : TBlk) : Prop := HdOk x.head ∧ (∀ t ∈ x.txs, TxRead t) ∧ x.txs.length ≤ 200
theorem stay_blk : Stay blkP := stay_takeHd.andThen fun _ => (stay_num 200).andThen fun n => (stay_many n).map _
theorem good_blk (x : TBlk) (h : BlkRead x) : Good blkP x (blkB x) := by
  obtain ⟨h1, h2, h3⟩ := h
  obtain ⟨a, l⟩ := x
  simp only at h1 h2 h3
  have g := (good_takeHd a h1).andThen (q := fun h => thenP (numL 200) fun n => mapP (fun l => (⟨h, l⟩ : TBlk)) (manyP takeTx n))
    ((good_num 200 l.length h3 (by omega)).andThen (q := fun n => mapP (fun l => (⟨a, l⟩ : TBlk)) (manyP takeTx n))
      ((good_many txB l (fun z hz => good_takeTx z (h2 z hz))).map _) (fun n => (stay_many n).map _))
    (fun _ => (stay_num 200).andThen fun n => (stay_many n).map _)
  simp only [blkB, txsB, List.append_assoc]
  exact g
theorem back_blk : BackR blkP (fun x bs => bs = blkB x ∧ BlkRead x) := by
  refine BackR.weak (back_takeHd.andThen (fun h => (back_num 200).andThen (fun n => (back_many txB _ back_takeTx n).map _) (fun n => (stay_many n).map _)) (fun _ => (stay_num 200).andThen fun n => (stay_many n).map _)) ?_
  rintro a x ⟨v, x1, x2, rfl, ⟨rfl, hv⟩, n, x3, x4, rfl, ⟨rfl, hn⟩, l, rfl, rfl, hl, hll⟩
  subst hll
  exact ⟨by simp only [blkB, txsB, List.append_assoc], hv, hl, hn⟩
/-- What was written is read again. -/
theorem blk_own {x : TBlk} (h : BlkRead x) : readBlk (blkB x) = (x, 0) := by
  have g := (good_blk x h).1 []
  rw [List.append_nil] at g
  unfold readBlk
  rw [g]
  rfl
/-- Cut off, it ends too early. -/
theorem blk_cut {x : TBlk} (h : BlkRead x) {k : Nat} (hk : k < (blkB x).length) : readBlk ((blkB x).take k) = (noBlk, 1) := by
  have g := (good_blk x h).2 k hk
  unfold readBlk
  rw [g, if_pos (by omega)]
/-- Longer, it has another shape. -/
theorem blk_long {x : TBlk} (h : BlkRead x) {y : List UInt8} (hy : y ≠ []) : readBlk (blkB x ++ y) = (noBlk, 2) := by
  unfold readBlk
  rw [(good_blk x h).1 y, if_neg (by simp), if_pos hy]
/-- What is read has just these bytes. -/
theorem blk_back {b : List UInt8} (h : (readBlk b).2 = 0) : b = blkB (readBlk b).1 ∧ BlkRead (readBlk b).1 := by
  obtain ⟨p, hp⟩ : ∃ p, blkP b 0 = p := ⟨_, rfl⟩
  unfold readBlk at h ⊢
  rw [hp] at h ⊢
  obtain ⟨a, r, c⟩ := p
  by_cases h1 : c ≠ 0
  · rw [if_pos (show (a, r, c).2.2 ≠ 0 from h1)] at h
    exact absurd h h1
  · have h1 : c = 0 := by omega
    subst h1
    by_cases h2 : r ≠ []
    · rw [if_neg (show ¬ (a, r, 0).2.2 ≠ 0 from fun h => h rfl), if_pos (show (a, r, 0).2.1 ≠ [] from h2)] at h
      exact absurd h (by simp)
    · have h2 : r = [] := by simpa using h2
      subst h2
      obtain ⟨x, e, e2, hr⟩ := back_blk b a [] hp
      rw [List.append_nil] at e
      exact ⟨e.trans e2, hr⟩
end Go.Proofs.YtnhmjlljnckieaaDoor.Sha

/-
  What of a block is small enough for the walks. No conditions.
-/
namespace Go.Proofs.YtnhmjlljnckieaaDoor.Sha
open Go Go.RowKit
/-- A block of a few transactions, each of a few inputs and outputs. -/
def BlkSmall (x : TBlk) : Prop := (∀ t ∈ x.txs, TxSmall t) ∧ x.txs.length ≤ 1000
theorem txB_le {t : TTx} (h : TxSmall t) : (txB t).length ≤ 200100000 := by
  have h1 := h.bytes
  have h2 := h.ins0
  have h3 := h.2.2.1
  have h4 := lenN_bd t.ins.length
  have h5 := lenN_bd t.outs.length
  omega
theorem txsB_le : ∀ (l : List TTx), (∀ t ∈ l, TxSmall t) → (txsB l).length ≤ 200100000 * l.length
  | [], _ => by simp [txsB]
  | t :: l, h => by
    have ih := txsB_le l (fun u hu => h u (List.mem_cons_of_mem _ hu))
    have h1 := txB_le (h t List.mem_cons_self)
    rw [txsB_cons, List.length_append, List.length_cons]
    omega
theorem BlkSmall.txs {x : TBlk} (h : BlkSmall x) : (txsB x.txs).length ≤ 200100000000 := by
  have h1 := txsB_le x.txs h.1
  have h2 := h.2
  omega
theorem blkB_len {x : TBlk} (hh : HdOk x.head) : (blkB x).length = 80 + lenN x.txs.length + (txsB x.txs).length := by
  simp only [blkB, List.length_append, hdB_length hh, putL_length]
theorem BlkSmall.len {x : TBlk} (h : BlkSmall x) (hh : HdOk x.head) : (blkB x).length ≤ 200200000000 := by
  have h1 := h.txs
  have h2 := lenN_bd x.txs.length
  rw [blkB_len hh]
  omega
end Go.Proofs.YtnhmjlljnckieaaDoor.Sha

/-
  Package block tells how many bytes a block has. Nothing that was there turns. Condition: a block of a few transactions that lies in memory.
-/
namespace Go.Proofs.YtnhmjlljnckieaaDoor.Sha
open Go Go.RowKit
def BsInv (n A : Nat) (l : List TTx) (w1 : World) (vs vi : Value) (wr : World) : Prop :=
  ∃ k s : Nat, k ≤ n ∧ vi = .int .i64 k ∧ s = A + (txsB (l.take k)).length ∧ vs = .int .i64 s ∧ Below w1.heap.size w1 wr
end Go.Proofs.YtnhmjlljnckieaaDoor.Sha

/-
  bytes.Equal answers whether two slices have the same bytes; nothing is written. Condition: the bytes lie where the slices say.
-/
namespace Go.Proofs.YtnhmjlljnckieaaDoor.Sha
open Go Go.RowKit
theorem conv_src {w : World} {v : Value} {bs : List UInt8} (h : SrcB w v bs) : (convert 70 9 v).run Tryd.prog w = .ok (.string ⟨bs.toArray⟩) w := by
  rcases h with ⟨sp, cap, rfl, rfl⟩ | ⟨h0, bb, off, cap, rfl, hc, hs⟩
  · cases sp with
    | none => exact Lib.run_convert_nil_bytes w _ _ _ cap Tryd.underlying70 Tryd.underlying5 Tryd.underlying9
    | some a => exact run_convert_bytes_back w _ _ _ a cap [] Tryd.underlying70 Tryd.underlying5 Tryd.underlying9 (fun j hj => absurd hj (by simp))
  · exact run_convert_bytes_back w _ _ _ ⟨bb, off, none⟩ cap bs Tryd.underlying70 Tryd.underlying5 Tryd.underlying9 (fun j hj => by
      rw [Addr.add_mid, hs j hj]
      simp [bv, List.getD, List.getElem?_eq_getElem hj])
theorem bytes_beq_of (x y : List UInt8) : ((⟨x.toArray⟩ : ByteArray).toList == (⟨y.toArray⟩ : ByteArray).toList) = decide (x = y) := by
  rw [ByteArray.toList_eq, ByteArray.toList_eq]
  show (x == y) = decide (x = y)
  by_cases h : x = y <;> simp [h]
end Go.Proofs.YtnhmjlljnckieaaDoor.Sha

/-
  Package tx tells whether two transactions have the same bytes, and the digest that a transaction goes by, given what Bytes answers. Nothing that was there turns. Condition: transactions of a few inputs and outputs that lie in memory.
-/
namespace Go.Proofs.YtnhmjlljnckieaaDoor.Sha
open Go Go.RowKit
theorem txs_differ {t u : TTx} (ht : TxSmall t) (hu : TxSmall u) : txB t = txB u ↔ t = u := ⟨fun h => txB_inj ht.fit hu.fit h, fun h => by rw [h]⟩
end Go.Proofs.YtnhmjlljnckieaaDoor.Sha

/-
  Package head writes a header down, in new memory. Nothing that was there turns. Condition: digests of 32 bytes, numbers of 32 bits.
-/
namespace Go.Proofs.YtnhmjlljnckieaaDoor.Sha
open Go Go.RowKit
set_option maxHeartbeats 1000000 in
set_option maxRecDepth 100000 in
theorem hdbytes_any (h : THd) (hh : HdOk h) (w : World) :
    Calls Tryd.prog 33 #[.agg (hdL h).toArray] w fun e w' => ∃ v, e = .returned v ∧ CopyB w w' v (hdB h) := by
  obtain ⟨i0, hi, hz0, hz1, hz2⟩ := info_parts info_u8
  have HH := Lib.hid hh
  obtain ⟨cs, hcs⟩ : ∃ cs, cs = hdL h := ⟨_, rfl⟩
  rw [← hcs]
  have CS := Lib.hid hcs
  obtain ⟨vv, hvv⟩ : ∃ n, n = h.ver := ⟨_, rfl⟩
  obtain ⟨vt, hvt⟩ : ∃ n, n = h.time := ⟨_, rfl⟩
  obtain ⟨vw, hvw⟩ : ∃ n, n = h.work := ⟨_, rfl⟩
  obtain ⟨vn, hvn⟩ : ∃ n, n = h.nonce := ⟨_, rfl⟩
  have BV : Hid (vv ≤ 4294967295) := by show _ ≤ _; rw [hvv]; exact hh.1
  have BT : Hid (vt ≤ 4294967295) := by show _ ≤ _; rw [hvt]; exact hh.2.2.2.1
  have BW : Hid (vw ≤ 4294967295) := by show _ ≤ _; rw [hvw]; exact hh.2.2.2.2.1
  have BN : Hid (vn ≤ 4294967295) := by show _ ≤ _; rw [hvn]; exact hh.2.2.2.2.2
  have EE : Hid (hdB h = leB vv 4 ++ h.prev ++ h.root ++ leB vt 4 ++ leB vw 4 ++ leB vn 4) := by show _ = _; rw [hvv, hvt, hvw, hvn]; rfl
  have LP : Hid (h.prev.length = 32) := hh.2.1
  have LR : Hid (h.root.length = 32) := hh.2.2.1
  have VV := Lib.hid hvv
  have VT := Lib.hid hvt
  have VW := Lib.hid hvw
  have VN := Lib.hid hvn
  clear hcs hh hvv hvt hvw hvn
  go_enter Tryd.func33, Tryd.ntmps33
  go_upto_region 1 with fail
  have F0 := heap_alloc_new w (.cells cs.toArray 32 (0, 0))
  have B0 := Lib.hid ((Below.refl w.heap.size w).alloc (Nat.le_refl _) (.cells cs.toArray 32 (0, 0)))
  generalize hw1 : World.alloc _ _ = w1
  have e1 : w.alloc (.cells cs.toArray 32 (0, 0)) = w1 := hw1
  rw [e1] at F0 B0
  rw [CS.out] at F0
  have K : HdBox w1 w.heap.size h := ⟨F0⟩
  have K := Lib.hid K
  clear hw1 e1 F0
  have C0 : Hid (∀ w', Below w1.heap.size w1 w' → w'.cell? ⟨w.heap.size, 0, none⟩ = some (.int .u32 (vv : Int))) := fun w' hw' => by rw [VV.out]; exact ((K.out.below hw').cells HH.out).1
  have C65 : Hid (∀ w', Below w1.heap.size w1 w' → w'.cell? ⟨w.heap.size, 65, none⟩ = some (.int .u32 (vt : Int))) := fun w' hw' => by rw [VT.out]; exact ((K.out.below hw').cells HH.out).2.1
  have C66 : Hid (∀ w', Below w1.heap.size w1 w' → w'.cell? ⟨w.heap.size, 66, none⟩ = some (.int .u32 (vw : Int))) := fun w' hw' => by rw [VW.out]; exact ((K.out.below hw').cells HH.out).2.2.1
  have C67 : Hid (∀ w', Below w1.heap.size w1 w' → w'.cell? ⟨w.heap.size, 67, none⟩ = some (.int .u32 (vn : Int))) := fun w' hw' => by rw [VN.out]; exact ((K.out.below hw').cells HH.out).2.2.2
  have SP : Hid (∀ w', Below w1.heap.size w1 w' → SrcB w' (.slice (some ⟨w.heap.size, 1, none⟩) 32 32) h.prev) := fun w' hw' => src_range (K.out.below hw').prev LP.out.symm (by omega) (Nat.le_refl _)
  have SR : Hid (∀ w', Below w1.heap.size w1 w' → SrcB w' (.slice (some ⟨w.heap.size, 33, none⟩) 32 32) h.root) := fun w' hw' => src_range ((K.out.below hw').root HH.out) LR.out.symm (by omega) (Nat.le_refl _)
  go_upto_region 2 with (at_make; refine wpList_make_own _ rfl _ _ 70 rfl w1.heap.size 5 i0 (.int .u8 0) 1 Tryd.underlying70 hi hz0 hz1 _ _ _ 80 rfl rfl (by omega) (by rw [hz2]; omega) (by unfold maxLen; omega) (Nat.le_refl _) ?_; intro w3 hown hgrow; have C3 : Hid (CopyB w1 w3 (.slice (some ⟨w1.heap.size, 0, none⟩) 0 80) []) := (⟨hown, below_made hgrow⟩ : CopyB w1 w3 (.slice (some ⟨w1.heap.size, 0, none⟩) 0 80) []); clear hown hgrow; go_frame)
  have c0 := C0.out w3 C3.out.2
  go_wp2_with fail
  refine (four_new [] _ vv w3 (nil_src _) (by simp) BV.out).mono ?_
  rintro e w4 ⟨s4, n4, c4, rfl, hn4, hc4⟩
  have P4 := Lib.hid hc4
  have C4 := Lib.hid (C3.out.keep hc4.2)
  clear hn4 hc4 c0 C3
  rw [List.nil_append] at P4
  go_upto_region 3 with ((with_reducible show wpList _ _ _ _ _ _); refine wpList_append_g _ rfl (.tmp 5) (.tmp 8) 70 rfl w1.heap.size 5 i0 Tryd.underlying70 hi hz0 hz1 hz2 _ _ _ (by rfl) C4.out.1 (.slice s4 n4 c4) (leB vv 4) (by rfl) P4.out.src (by simp only [leB_length, List.length_nil]; omega) C4.out.2.size ?_; intro v5 w5 a1 a2 a3; have C5 := Lib.hid (C4.out.app a1 a2); clear a1 a2 a3; go_frame)
  obtain ⟨A5, hA5⟩ : ∃ A, A = leB vv 4 := ⟨_, rfl⟩
  rw [List.nil_append, ← hA5] at C5
  have LA5 : Hid (A5.length = 4) := by show _ = _; rw [hA5, leB_length]
  have HA5 := Lib.hid hA5
  clear hA5 P4 C4
  go_upto_region 4 with ((with_reducible show wpList _ _ _ _ _ _); refine wpList_append_g _ rfl (.tmp 10) (.tmp 12) 70 rfl w1.heap.size 5 i0 Tryd.underlying70 hi hz0 hz1 hz2 _ _ _ (by rfl) C5.out.1 (.slice (some ⟨w.heap.size, 1, none⟩) 32 32) h.prev (by rfl) (SP.out _ C5.out.2) (by rw [LA5.out, LP.out]; omega) C5.out.2.size ?_; intro v6 w6 a1 a2 a3; have C6 := Lib.hid (C5.out.app a1 a2); clear a1 a2 a3; go_frame)
  have LA6 : Hid ((A5 ++ h.prev).length = 36) := by show _ = _; rw [List.length_append, LA5.out, LP.out]
  clear C5 LA5
  go_upto_region 5 with ((with_reducible show wpList _ _ _ _ _ _); refine wpList_append_g _ rfl (.tmp 14) (.tmp 16) 70 rfl w1.heap.size 5 i0 Tryd.underlying70 hi hz0 hz1 hz2 _ _ _ (by rfl) C6.out.1 (.slice (some ⟨w.heap.size, 33, none⟩) 32 32) h.root (by rfl) (SR.out _ C6.out.2) (by rw [LA6.out, LR.out]; omega) C6.out.2.size ?_; intro v7 w7 a1 a2 a3; have C7 := Lib.hid (C6.out.app a1 a2); clear a1 a2 a3; go_frame)
  have LA7 : Hid ((A5 ++ h.prev ++ h.root).length = 68) := by show _ = _; rw [List.length_append, LA6.out, LR.out]
  clear C6 LA6
  have c65 := C65.out w7 C7.out.2
  go_wp2_with fail
  refine (four_new [] _ vt w7 (nil_src _) (by simp) BT.out).mono ?_
  rintro e w8 ⟨s8, n8, c8, rfl, hn8, hc8⟩
  have P8 := Lib.hid hc8
  have C8 := Lib.hid (C7.out.keep hc8.2)
  clear hn8 hc8 c65 C7
  rw [List.nil_append] at P8
  go_upto_region 6 with ((with_reducible show wpList _ _ _ _ _ _); refine wpList_append_g _ rfl (.tmp 18) (.tmp 21) 70 rfl w1.heap.size 5 i0 Tryd.underlying70 hi hz0 hz1 hz2 _ _ _ (by rfl) C8.out.1 (.slice s8 n8 c8) (leB vt 4) (by rfl) P8.out.src (by rw [LA7.out, leB_length]; omega) C8.out.2.size ?_; intro v9 w9 a1 a2 a3; have C9 := Lib.hid (C8.out.app a1 a2); clear a1 a2 a3; go_frame)
  have LA9 : Hid ((A5 ++ h.prev ++ h.root ++ leB vt 4).length = 72) := by show _ = _; rw [List.length_append, LA7.out, leB_length]
  clear P8 C8 LA7
  have c66 := C66.out w9 C9.out.2
  go_wp2_with fail
  refine (four_new [] _ vw w9 (nil_src _) (by simp) BW.out).mono ?_
  rintro e w10 ⟨s10, n10, c10, rfl, hn10, hc10⟩
  have P10 := Lib.hid hc10
  have C10 := Lib.hid (C9.out.keep hc10.2)
  clear hn10 hc10 c66 C9
  rw [List.nil_append] at P10
  go_upto_region 7 with ((with_reducible show wpList _ _ _ _ _ _); refine wpList_append_g _ rfl (.tmp 23) (.tmp 26) 70 rfl w1.heap.size 5 i0 Tryd.underlying70 hi hz0 hz1 hz2 _ _ _ (by rfl) C10.out.1 (.slice s10 n10 c10) (leB vw 4) (by rfl) P10.out.src (by rw [LA9.out, leB_length]; omega) C10.out.2.size ?_; intro v11 w11 a1 a2 a3; have C11 := Lib.hid (C10.out.app a1 a2); clear a1 a2 a3; go_frame)
  have LA11 : Hid ((A5 ++ h.prev ++ h.root ++ leB vt 4 ++ leB vw 4).length = 76) := by show _ = _; rw [List.length_append, LA9.out, leB_length]
  clear P10 C10 LA9
  have c67 := C67.out w11 C11.out.2
  go_wp2_with fail
  refine (four_new [] _ vn w11 (nil_src _) (by simp) BN.out).mono ?_
  rintro e w12 ⟨s12, n12, c12, rfl, hn12, hc12⟩
  have P12 := Lib.hid hc12
  have C12 := Lib.hid (C11.out.keep hc12.2)
  clear hn12 hc12 c67 C11
  rw [List.nil_append] at P12
  go_wp2_with ((with_reducible show wpList _ _ _ _ _ _); refine wpList_append_g _ rfl (.tmp 28) (.tmp 31) 70 rfl w1.heap.size 5 i0 Tryd.underlying70 hi hz0 hz1 hz2 _ _ _ (by rfl) C12.out.1 (.slice s12 n12 c12) (leB vn 4) (by rfl) P12.out.src (by rw [LA11.out, leB_length]; omega) C12.out.2.size ?_; intro v13 w13 a1 a2 a3; have C13 := Lib.hid (C12.out.app a1 a2); clear a1 a2 a3; go_frame)
  go_ret
  refine ⟨_, rfl, ?_⟩
  rw [EE.out, ← HA5.out]
  exact C13.out.start B0.out
end Go.Proofs.YtnhmjlljnckieaaDoor.Sha
