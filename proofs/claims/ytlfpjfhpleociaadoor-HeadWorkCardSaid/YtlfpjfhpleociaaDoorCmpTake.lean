/-
  A Reader's inner call takes so many bytes, or tells that there are too few, or that an error was met; Left and Err tell what is left and the first error; Read makes a Reader. Conditions: the Reader stands as it should; the three errors are there.
-/
import Derived.Test.YtlfpjfhpleociaaDoorCmpRdr
namespace Go.Proofs.YtlfpjfhpleociaaDoor.Sha
open Go Go.RowKit
set_option maxRecDepth 100000 in
theorem left_any (E : Nat → Addr) (m : Nat) (bs : List UInt8) (c r : Nat) (w : World) (h : RdI E m w r bs c) :
    Calls Tryd.prog 21 #[.pointer (some ⟨r, 0, none⟩)] w fun e w' => e = .returned (.int .i64 (bs.length : Nat)) ∧ w = w' := by
  obtain ⟨v, h1, h2, h3⟩ := h
  obtain ⟨sp, n, cap, rfl, hn, _⟩ := h2.shape'
  have c0 : w.cell? ⟨r, 0, none⟩ = some (.slice sp n cap) := by rw [cell_of_row _ _ _ _ _ _ h1]; rfl
  rw [← hn]
  clear h1 h2 h3 hn
  go_enter Tryd.func21, Tryd.ntmps21
  go_wp2
  go_ret
  exact ⟨rfl, rfl⟩
set_option maxRecDepth 100000 in
theorem err_any (E : Nat → Addr) (m : Nat) (bs : List UInt8) (c r : Nat) (w : World) (h : RdI E m w r bs c) :
    Calls Tryd.prog 20 #[.pointer (some ⟨r, 0, none⟩)] w fun e w' => e = .returned (errV E c) ∧ w = w' := by
  obtain ⟨v, h1, h2, h3⟩ := h
  obtain ⟨x, hx⟩ : ∃ x, x = errV E c := ⟨_, rfl⟩
  rw [← hx] at h1 ⊢
  have c0 : w.cell? ⟨r, 1, none⟩ = some x := by rw [cell_of_row _ _ _ _ _ _ h1]; rfl
  clear h1 h2 h3 hx
  go_enter Tryd.func20, Tryd.ntmps20
  go_wp2
  go_ret
  exact ⟨rfl, rfl⟩
/-- Where an own row lies. -/
theorem own_at {w : World} {base n : Nat} {v : Value} {xs : List Value} {e : TypeId} (h : w.ownsRow base e 1 v n xs) : ∃ m, AtB v m ∧ m ≠ w.heap.size ∧ (0 < n → base ≤ m) := by
  rcases h.2 with ⟨h', h0⟩ | ⟨g, cap', cur, h', hg, hc, _⟩
  · exact ⟨w.heap.size + 1, (fun sp k cap hv hk => by rw [hv] at h'; cases h'), by omega, fun h1 => by omega⟩
  · refine ⟨g, (fun sp k cap hv hk => ?_), ?_, fun _ => hg⟩
    · rw [hv] at h'; cases h'; rfl
    · have := (Array.getElem?_eq_some_iff.1 hc).1
      omega
/-- A Reader that stands on a copy of its own. -/
def NewRd (E : Nat → Addr) (m : Nat) (w w' : World) (r : Nat) (bs : List UInt8) : Prop := RdI E m w' r bs 0 ∧ Below w.heap.size w w' ∧ w.heap.size ≤ r ∧ (bs ≠ [] → w.heap.size ≤ m)
set_option maxRecDepth 100000 in
theorem read_any (E : Nat → Addr) (bs : List UInt8) (v : Value) (w : World) (hs : SrcB w v bs) (hl : bs.length ≤ 70368744177664) :
    Calls Tryd.prog 18 #[v] w fun e w' => ∃ m r, e = .returned (.pointer (some ⟨r, 0, none⟩)) ∧ NewRd E m w w' r bs := by
  have HS := Lib.hid hs
  clear hs
  go_enter Tryd.func18, Tryd.ntmps18
  go_wp2_with fail
  refine (clone_any bs v _ HS.out hl).mono ?_
  rintro e w1 ⟨v1, rfl, h1⟩
  obtain ⟨sp1, n1, cap1, rfl, -, -⟩ := (src_own h1.1).shape'
  have H1 := Lib.hid h1
  clear h1
  go_wp2_with fail
  go_ret
  obtain ⟨m, hm1, hm3, hm2⟩ := own_at H1.out.1
  exact ⟨m, _, rfl, ⟨.slice sp1 n1 cap1, heap_alloc_new _ _, (src_own H1.out.1).below ((Below.refl _ _).alloc (Nat.le_refl _) _), hm1, hm3⟩, H1.out.2.alloc H1.out.2.size _, H1.out.2.size, fun h => hm2 (List.length_pos_iff.2 h)⟩
theorem cut_shape {v : Value} {sp : Option Addr} {l r cap : Nat} (h : Hid (v = sliced sp l r cap 1)) : ∃ x, v = .slice x (r - l) (cap - l) := ⟨_, h.out⟩
set_option maxRecDepth 100000 in
theorem take_any (E : Nat → Addr) (m : Nat) (k : Nat) (kk : Int) (hkk : kk = (k : Int)) (bs : List UInt8) (c r : Nat) (w : World) (hE : Er w E) (h : RdI E m w r bs c) (hk : k ≤ 9223372036854775807) :
    Calls Tryd.prog 34 #[.pointer (some ⟨r, 0, none⟩), .int .i64 kk] w (TakePost E m k bs c r w) := by
  subst hkk
  obtain ⟨v, h1, h2, h3⟩ := h
  obtain ⟨sp, n, cap, rfl, hn, hcap⟩ := h2.shape'
  have f0 := frozen_of_row w r 0 _ _ h1
  have f1 := frozen_of_row w r 1 _ _ h1
  have c0 : w.cell? ⟨r, 0, none⟩ = some (.slice sp n cap) := by rw [cell_of_row _ _ _ _ _ _ h1]; rfl
  have c1 : w.cell? ⟨r, 1, none⟩ = some (errV E c) := by rw [cell_of_row _ _ _ _ _ _ h1]; rfl
  have H1 := Lib.hid h1
  have H2 := Lib.hid h2
  have H3 := Lib.hid h3
  have HN := Lib.hid hn
  clear h1 h2 h3 hn
  cases c with
  | succ c =>
    have HT : Hid (takeL k bs (c + 1) = ([], bs, c + 1)) := by show _ = _; unfold takeL; rw [if_pos (by omega)]
    change _ = some (Value.iface 95 (.pointer (some (E c)))) at c1
    clear f0 f1 hE
    go_enter Tryd.func34, Tryd.ntmps34
    go_wp2_with fail
    go_ret
    refine ⟨_, rfl, ?_, apart_none _ _ _, ?_, grownBy_refl _ _⟩
    · rw [HT.out]; exact src_none _
    · rw [HT.out]; exact ⟨_, H1.out, H2.out, H3.out⟩
  | zero =>
    change _ = some Value.nilIface at c1
    by_cases hlt : n < k
    · have HT : Hid (takeL k bs 0 = ([], bs, 1)) := by show _ = _; unfold takeL; rw [if_neg (by omega), if_pos (by rw [← HN.out]; exact hlt)]
      have e1 := hE.1
      change _ = some (Value.iface 95 (.pointer (some (E 0)))) at e1
      clear f0 hE
      go_enter Tryd.func34, Tryd.ntmps34
      go_wp2_with fail
      go_ret
      obtain ⟨g1, g2⟩ := rd_err (d := 1) H1.out H2.out H3.out.1 H3.out.2
      refine ⟨_, rfl, ?_, apart_none _ _ _, ?_, g2⟩
      · rw [HT.out]; exact src_none _
      · rw [HT.out]; exact g1
    · have HT : Hid (takeL k bs 0 = (bs.take k, bs.drop k, 0)) := by show _ = _; unfold takeL; rw [if_neg (by omega), if_neg (by rw [← HN.out]; exact hlt)]
      have i1 : ¬ (n : Int) < (k : Int) := by omega
      clear f1 hE
      go_enter Tryd.func34, Tryd.ntmps34
      go_wp2_with ((with_reducible show wpList _ _ _ _ _ _); first | (refine wpList_cut_h rfl 28 (.tmp 25) (.tmp 26) rfl 5 Tryd.underlying28 (by kernel_rfl) sp n cap k rfl rfl (by omega) ?_; intro vh hvh; go_frame) | (refine wpList_cut_l rfl 28 (.tmp 32) (.tmp 33) rfl 5 Tryd.underlying28 (by kernel_rfl) sp n cap k rfl rfl (by omega) ?_; intro vl hvl; obtain ⟨xl, rfl⟩ := cut_shape hvl; go_frame))
      go_ret
      have s1 := src_sliced H2.out 0 k (by omega) (by omega)
      have s2 := src_sliced H2.out k n (by omega) (by omega)
      have a1 := apart_cut (show 0 ≤ k by omega) (show k ≤ n by omega) H3.out.1
      have a2 := apart_cut (show k ≤ n by omega) (Nat.le_refl n) H3.out.1
      rw [← hvh.out] at s1 a1
      rw [← hvl.out] at s2 a2
      rw [List.take_of_length_le (show bs.length ≤ n by rw [HN.out]; exact Nat.le_refl _)] at s2
      obtain ⟨g1, g2⟩ := rd_set H1.out s2 a2 H3.out.2
      refine ⟨_, rfl, ?_, a1, ?_, g2⟩
      · rw [HT.out]
        rw [List.drop_zero] at s1
        exact s1.grown a1 H3.out.2 g2
      · rw [HT.out]; exact g1
end Go.Proofs.YtlfpjfhpleociaaDoor.Sha
