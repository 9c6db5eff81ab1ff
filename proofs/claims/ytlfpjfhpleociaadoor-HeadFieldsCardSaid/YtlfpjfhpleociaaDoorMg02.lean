/-
  Texts of this proof joined into one file: CmpTake, CmpRead, CmpRead2, CmpHash, Errs, ErrIs, RdrState, Par, HdMath, TxData, TxMath, ArgsTx, RefNumb, ShaSame, PtSame, RefSameB, TxSame. What each holds, and under which conditions, its own first sentence tells.
-/
import Derived.Deep.RegionLaw
import Derived.LaidEql
import Derived.Deep.DeepFit
import Derived.Deep.Slices
import Derived.Test.YtlfpjfhpleociaaDoorMg01
/-
  A Reader's inner call takes so many bytes, or tells that there are too few, or that an error was met; Left and Err tell what is left and the first error; Read makes a Reader. Conditions: the Reader stands as it should; the three errors are there.
-/
namespace Go.Proofs.YtlfpjfhpleociaaDoor.Sha
open Go Go.RowKit
set_option maxRecDepth 100000 in
theorem left_any (E : Nat → Addr) (m : Nat) (bs : List UInt8) (c r : Nat) (w : World) (h : RdI E m w r bs c) :
    Calls Tryd.prog 21 #[.pointer (some ⟨r, 0, none⟩)] w fun e w' => e = .returned (.int .i64 (bs.length : Nat)) ∧ w = w' := by
  obtain ⟨v, h1, h2, h3⟩ := h
  obtain ⟨sp, n, cap, rfl, hn, _⟩ := h2.shape'
  have c0 : w.cell? ⟨r, 0, none⟩ = some (.slice sp n cap) := by rw [cell_of_row _ _ _ _ _ _ h1]; rfl
  rw [← hn]
  clear h1 h2 h3 hn
  go_enter Tryd.func21, Tryd.ntmps21
  go_wp2
  go_ret
  exact ⟨rfl, rfl⟩
set_option maxRecDepth 100000 in
theorem err_any (E : Nat → Addr) (m : Nat) (bs : List UInt8) (c r : Nat) (w : World) (h : RdI E m w r bs c) :
    Calls Tryd.prog 20 #[.pointer (some ⟨r, 0, none⟩)] w fun e w' => e = .returned (errV E c) ∧ w = w' := by
  obtain ⟨v, h1, h2, h3⟩ := h
  obtain ⟨x, hx⟩ : ∃ x, x = errV E c := ⟨_, rfl⟩
  rw [← hx] at h1 ⊢
  have c0 : w.cell? ⟨r, 1, none⟩ = some x := by rw [cell_of_row _ _ _ _ _ _ h1]; rfl
  clear h1 h2 h3 hx
  go_enter Tryd.func20, Tryd.ntmps20
  go_wp2
  go_ret
  exact ⟨rfl, rfl⟩
/-- Where an own row lies. -/
theorem own_at {w : World} {base n : Nat} {v : Value} {xs : List Value} {e : TypeId} (h : w.ownsRow base e 1 v n xs) : ∃ m, AtB v m ∧ m ≠ w.heap.size ∧ (0 < n → base ≤ m) := by
  rcases h.2 with ⟨h', h0⟩ | ⟨g, cap', cur, h', hg, hc, _⟩
  · exact ⟨w.heap.size + 1, (fun sp k cap hv hk => by rw [hv] at h'; cases h'), by omega, fun h1 => by omega⟩
  · refine ⟨g, (fun sp k cap hv hk => ?_), ?_, fun _ => hg⟩
    · rw [hv] at h'; cases h'; rfl
    · have := (Array.getElem?_eq_some_iff.1 hc).1
      omega
/-- A Reader that stands on a copy of its own. -/
def NewRd (E : Nat → Addr) (m : Nat) (w w' : World) (r : Nat) (bs : List UInt8) : Prop := RdI E m w' r bs 0 ∧ Below w.heap.size w w' ∧ w.heap.size ≤ r ∧ (bs ≠ [] → w.heap.size ≤ m)
set_option maxRecDepth 100000 in
theorem read_any (E : Nat → Addr) (bs : List UInt8) (v : Value) (w : World) (hs : SrcB w v bs) (hl : bs.length ≤ 70368744177664) :
    Calls Tryd.prog 18 #[v] w fun e w' => ∃ m r, e = .returned (.pointer (some ⟨r, 0, none⟩)) ∧ NewRd E m w w' r bs := by
  have HS := Lib.hid hs
  clear hs
  go_enter Tryd.func18, Tryd.ntmps18
  go_wp2_with fail
  refine (clone_any bs v _ HS.out hl).mono ?_
  rintro e w1 ⟨v1, rfl, h1⟩
  obtain ⟨sp1, n1, cap1, rfl, -, -⟩ := (src_own h1.1).shape'
  have H1 := Lib.hid h1
  clear h1
  go_wp2_with fail
  go_ret
  obtain ⟨m, hm1, hm3, hm2⟩ := own_at H1.out.1
  exact ⟨m, _, rfl, ⟨.slice sp1 n1 cap1, heap_alloc_new _ _, (src_own H1.out.1).below ((Below.refl _ _).alloc (Nat.le_refl _) _), hm1, hm3⟩, H1.out.2.alloc H1.out.2.size _, H1.out.2.size, fun h => hm2 (List.length_pos_iff.2 h)⟩
theorem cut_shape {v : Value} {sp : Option Addr} {l r cap : Nat} (h : Hid (v = sliced sp l r cap 1)) : ∃ x, v = .slice x (r - l) (cap - l) := ⟨_, h.out⟩
set_option maxRecDepth 100000 in
theorem take_any (E : Nat → Addr) (m : Nat) (k : Nat) (kk : Int) (hkk : kk = (k : Int)) (bs : List UInt8) (c r : Nat) (w : World) (hE : Er w E) (h : RdI E m w r bs c) (hk : k ≤ 9223372036854775807) :
    Calls Tryd.prog 34 #[.pointer (some ⟨r, 0, none⟩), .int .i64 kk] w (TakePost E m k bs c r w) := by
  subst hkk
  obtain ⟨v, h1, h2, h3⟩ := h
  obtain ⟨sp, n, cap, rfl, hn, hcap⟩ := h2.shape'
  have f0 := frozen_of_row w r 0 _ _ h1
  have f1 := frozen_of_row w r 1 _ _ h1
  have c0 : w.cell? ⟨r, 0, none⟩ = some (.slice sp n cap) := by rw [cell_of_row _ _ _ _ _ _ h1]; rfl
  have c1 : w.cell? ⟨r, 1, none⟩ = some (errV E c) := by rw [cell_of_row _ _ _ _ _ _ h1]; rfl
  have H1 := Lib.hid h1
  have H2 := Lib.hid h2
  have H3 := Lib.hid h3
  have HN := Lib.hid hn
  clear h1 h2 h3 hn
  cases c with
  | succ c =>
    have HT : Hid (takeL k bs (c + 1) = ([], bs, c + 1)) := by show _ = _; unfold takeL; rw [if_pos (by omega)]
    change _ = some (Value.iface 95 (.pointer (some (E c)))) at c1
    clear f0 f1 hE
    go_enter Tryd.func34, Tryd.ntmps34
    go_wp2_with fail
    go_ret
    refine ⟨_, rfl, ?_, apart_none _ _ _, ?_, grownBy_refl _ _⟩
    · rw [HT.out]; exact src_none _
    · rw [HT.out]; exact ⟨_, H1.out, H2.out, H3.out⟩
  | zero =>
    change _ = some Value.nilIface at c1
    by_cases hlt : n < k
    · have HT : Hid (takeL k bs 0 = ([], bs, 1)) := by show _ = _; unfold takeL; rw [if_neg (by omega), if_pos (by rw [← HN.out]; exact hlt)]
      have e1 := hE.1
      change _ = some (Value.iface 95 (.pointer (some (E 0)))) at e1
      clear f0 hE
      go_enter Tryd.func34, Tryd.ntmps34
      go_wp2_with fail
      go_ret
      obtain ⟨g1, g2⟩ := rd_err (d := 1) H1.out H2.out H3.out.1 H3.out.2
      refine ⟨_, rfl, ?_, apart_none _ _ _, ?_, g2⟩
      · rw [HT.out]; exact src_none _
      · rw [HT.out]; exact g1
    · have HT : Hid (takeL k bs 0 = (bs.take k, bs.drop k, 0)) := by show _ = _; unfold takeL; rw [if_neg (by omega), if_neg (by rw [← HN.out]; exact hlt)]
      have i1 : ¬ (n : Int) < (k : Int) := by omega
      clear f1 hE
      go_enter Tryd.func34, Tryd.ntmps34
      go_wp2_with ((with_reducible show wpList _ _ _ _ _ _); first | (refine wpList_cut_h rfl 28 (.tmp 25) (.tmp 26) rfl 5 Tryd.underlying28 (by kernel_rfl) sp n cap k rfl rfl (by omega) ?_; intro vh hvh; go_frame) | (refine wpList_cut_l rfl 28 (.tmp 32) (.tmp 33) rfl 5 Tryd.underlying28 (by kernel_rfl) sp n cap k rfl rfl (by omega) ?_; intro vl hvl; obtain ⟨xl, rfl⟩ := cut_shape hvl; go_frame))
      go_ret
      have s1 := src_sliced H2.out 0 k (by omega) (by omega)
      have s2 := src_sliced H2.out k n (by omega) (by omega)
      have a1 := apart_cut (show 0 ≤ k by omega) (show k ≤ n by omega) H3.out.1
      have a2 := apart_cut (show k ≤ n by omega) (Nat.le_refl n) H3.out.1
      rw [← hvh.out] at s1 a1
      rw [← hvl.out] at s2 a2
      rw [List.take_of_length_le (show bs.length ≤ n by rw [HN.out]; exact Nat.le_refl _)] at s2
      obtain ⟨g1, g2⟩ := rd_set H1.out s2 a2 H3.out.2
      refine ⟨_, rfl, ?_, a1, ?_, g2⟩
      · rw [HT.out]
        rw [List.drop_zero] at s1
        exact s1.grown a1 H3.out.2 g2
      · rw [HT.out]; exact g1
end Go.Proofs.YtlfpjfhpleociaaDoor.Sha

/-
  A Reader's Num, Four, Eight, Bytes and Hash answer what the chapter says, and leave what it says. Conditions: the Reader stands as it should; the three errors are there.
-/
namespace Go.Proofs.YtlfpjfhpleociaaDoor.Sha
open Go Go.RowKit
/-- The three errors, none of them at block r. -/
def ErR (w : World) (E : Nat → Addr) (r : Nat) : Prop := Er w E ∧ 2 ≠ r ∧ 0 ≠ r ∧ 4 ≠ r
theorem ErR.grown {w w' : World} {E : Nat → Addr} {r : Nat} (h : ErR w E r) (hg : w.grownBy w' (some r)) : ErR w' E r := by
  obtain ⟨⟨a, b, c⟩, p, q, s⟩ := h
  exact ⟨⟨hg.cell a (fun e => p (Option.some.inj e)), hg.cell b (fun e => q (Option.some.inj e)), hg.cell c (fun e => s (Option.some.inj e))⟩, p, q, s⟩
theorem ErR.below {w w' : World} {E : Nat → Addr} {r : Nat} (h : ErR w E r) (hb : Below w.heap.size w w') : ErR w' E r := ⟨h.1.below hb, h.2⟩
theorem takeL_le (k : Nat) (bs : List UInt8) (c : Nat) : (takeL k bs c).1.length ≤ k := by
  unfold takeL
  split
  · simp
  · split
    · simp
    · simp [List.length_take]; omega
def TookPost (E : Nat → Addr) (m : Nat) (x b : List UInt8) (d r : Nat) (w : World) (e : Ending) (w' : World) : Prop :=
  ∃ v, e = .returned v ∧ SrcB w' v x ∧ AtB v m ∧ RdI E m w' r b d ∧ w.grownBy w' (some r)
theorem take_is (E : Nat → Addr) (m : Nat) (k : Nat) (kk : Int) (hkk : kk = (k : Int)) (bs x b : List UInt8) (c d r : Nat) (w : World) (hE : ErR w E r) (h : RdI E m w r bs c) (hk : k ≤ 9223372036854775807) (ht : takeL k bs c = (x, b, d)) :
    Calls Tryd.prog 34 #[.pointer (some ⟨r, 0, none⟩), .int .i64 kk] w (TookPost E m x b d r w) := by
  refine (take_any E m k kk hkk bs c r w hE.1 h hk).mono fun e w' ⟨v, he, h1, h2, h3, h4⟩ => ?_
  rw [ht] at h1 h3
  exact ⟨v, he, h1, h2, h3, h4⟩
/-- What Num answers, leaves and meets. -/
def numL (most : Nat) (bs : List UInt8) (c : Nat) : Nat × List UInt8 × Nat :=
  let t := takeL 1 bs c
  let k := widN (leN t.1)
  let u := if k = 0 then t else takeL k t.2.1 t.2.2
  if u.2.2 ≠ 0 then (0, u.2.1, u.2.2) else if lenN (leN u.1) ≠ 1 + k then (0, u.2.1, 2) else if most < leN u.1 then (0, u.2.1, 4) else (leN u.1, u.2.1, 0)
/-- What a Reader's two cells are. -/
theorem RdI.cells {E : Nat → Addr} {m : Nat} {w : World} {r c : Nat} {bs : List UInt8} (h : RdI E m w r bs c) : w.cell? ⟨r, 1, none⟩ = some (errV E c) ∧ w.frozen? ⟨r, 1, none⟩ = false := by
  obtain ⟨v, h1, _⟩ := h
  exact ⟨by rw [cell_of_row _ _ _ _ _ _ h1]; rfl, frozen_of_row _ _ _ _ _ h1⟩
end Go.Proofs.YtlfpjfhpleociaaDoor.Sha

/-
  A Reader's Four, Eight and Bytes answer what the chapter says, and leave what it says; Hash behind an error answers no digest. Conditions: the Reader stands as it should; the three errors are there.
-/
namespace Go.Proofs.YtlfpjfhpleociaaDoor.Sha
open Go Go.RowKit
def FourPost (E : Nat → Addr) (m : Nat) (n : Nat) (b : List UInt8) (d r : Nat) (w : World) (e : Ending) (w' : World) : Prop :=
  e = .returned (.int .u32 n) ∧ RdI E m w' r b d ∧ w.grownBy w' (some r)
set_option maxRecDepth 100000 in
theorem four_is (E : Nat → Addr) (m : Nat) (bs x b : List UInt8) (c d r : Nat) (w : World) (hE : ErR w E r) (hr : RdI E m w r bs c) (ht : takeL 4 bs c = (x, b, d)) :
    Calls Tryd.prog 28 #[.pointer (some ⟨r, 0, none⟩)] w (FourPost E m (leN x) b d r w) := by
  have HE := Lib.hid hE
  have HR := Lib.hid hr
  have HT := Lib.hid ht
  have hx : x.length ≤ 4 := by have := takeL_le 4 bs c; rw [ht] at this; exact this
  have hlt : leN x < 4294967296 := by
    have h1 := leN_lt x
    have h2 : 256 ^ x.length ≤ 256 ^ 4 := Nat.pow_le_pow_right (by omega) hx
    have h3 : (256 : Nat) ^ 4 = 4294967296 := rfl
    omega
  have HX := Lib.hid hx
  obtain ⟨n, hn⟩ : ∃ n, n = leN x := ⟨_, rfl⟩
  rw [← hn] at hlt ⊢
  have HN := Lib.hid hn
  have hmod : (n : Int) % 4294967296 = (n : Int) := by omega
  clear hE hr ht hx hn
  go_enter Tryd.func28, Tryd.ntmps28
  go_wp2_with fail
  refine (take_is E m 4 4 rfl bs x b c d r _ HE.out HR.out (by omega) HT.out).mono ?_
  rintro e w1 ⟨v1, rfl, s1, -, i1, g1⟩
  have S1 := Lib.hid s1
  have I1 := Lib.hid i1
  have G1 := Lib.hid g1
  clear s1 i1 g1
  go_wp2_with fail
  have hnum := number_any x v1 w1 S1.out (by have := HX.out; omega)
  rw [← HN.out] at hnum
  refine hnum.mono ?_
  rintro e w' ⟨rfl, rfl⟩
  clear hnum
  go_wp2_with fail
  go_ret
  exact ⟨ret_int (by omega), I1.out, G1.out⟩
end Go.Proofs.YtlfpjfhpleociaaDoor.Sha

/-
  A Reader's Hash answers the next 32 bytes, or no digest, and leaves what the chapter says. Conditions: the Reader stands as it should; the three errors are there.
-/
namespace Go.Proofs.YtlfpjfhpleociaaDoor.Sha
open Go Go.RowKit
/-- Bytes filled up to a digest's 32. -/
def padH (x : List UInt8) : List UInt8 := x ++ List.replicate (32 - x.length) 0
theorem padH_length {x : List UInt8} (h : x.length ≤ 32) : (padH x).length = 32 := by simp [padH]; omega
theorem splice_zero (x : List UInt8) (_ : x.length ≤ 32) : splice (List.replicate 32 (bV 0)) 0 (x.map bV) = (padH x).map bV := by
  have e : List.drop x.length (List.replicate 32 (bV 0)) = List.replicate (32 - x.length) (bV 0) := List.drop_replicate ..
  unfold splice padH
  rw [List.length_map, Nat.zero_add, e, List.take_zero, List.nil_append, List.map_append, List.map_replicate]
def HashPost (E : Nat → Addr) (m : Nat) (x b : List UInt8) (d r : Nat) (w : World) (e : Ending) (w' : World) : Prop :=
  e = .returned (.agg ((padH x).map bV).toArray) ∧ RdI E m w' r b d ∧ w.grownBy w' (some r)
theorem hash_end {w w1 w2 : World} {r : Nat} {o : Obj} (_ : r < w.heap.size) (g1 : (w.alloc o).drew.grownBy w1 (some r)) (h : Below w.heap.size w1 w2) : w.grownBy w2 (some r) := by
  refine ⟨h.os.trans g1.os, h.tape.trans g1.tape, h.output.trans g1.output, ?_, fun k hk hne => ?_⟩
  · have h1 := g1.size
    have h2 := h.size
    have h3 : (w.alloc o).drew.heap.size = w.heap.size + 1 := by simp [World.drew]
    omega
  · rw [h.block k hk, g1.block k (by simp [World.drew]; omega) hne]
    exact ((Below.refl w.heap.size w).alloc (Nat.le_refl _) o).drew.block k hk
theorem grown_then {w w2 w3 : World} {r : Nat} (h : w.grownBy w2 (some r)) (hb : Below w.heap.size w2 w3) : w.grownBy w3 (some r) :=
  ⟨hb.os.trans h.os, hb.tape.trans h.tape, hb.output.trans h.output, Nat.le_trans h.size hb.size, fun k hk hne => by rw [hb.block k hk]; exact h.block k hk hne⟩
theorem hash_row {w w1 : World} {r : Nat} {o : Obj} (hr : r < w.heap.size) (g1 : (w.alloc o).drew.grownBy w1 (some r)) : w1.heap[w.heap.size]? = some o := by
  rw [g1.block w.heap.size (by simp [World.drew]) (fun e => by have := Option.some.inj e; omega)]
  exact heap_alloc_new _ _
theorem src_cells {w : World} {sp : Option Addr} {n cap : Nat} {bs : List UInt8} (h : SrcB w (.slice sp n cap) bs) (g off : Nat) (h0 : 0 < (bs.map bV).length) : (some ⟨g, off, none⟩ : Option Addr) = some ⟨g, off, none⟩ ∧ ∃ ad, sp = some ad ∧ ∀ j v, (bs.map bV)[j]? = some v → w.cell? (ad.add j) = some v := by
  refine ⟨rfl, ?_⟩
  rcases h with ⟨sp', cap', hv, rfl⟩ | ⟨h1, bb, o, cap', hv, _, hc⟩
  · simp at h0
  · cases hv
    refine ⟨_, rfl, fun j v hj => ?_⟩
    rw [List.getElem?_map] at hj
    obtain ⟨b, hb, rfl⟩ := Option.map_eq_some_iff.1 hj
    have hlt := (List.getElem?_eq_some_iff.1 hb).1
    rw [Addr.add_mid, hc j hlt]
    simp [bV, List.getD, hb]
theorem copy_fact {w1 : World} {g n cap : Nat} {sp : Option Addr} {x : List UInt8} {T : TypeId} (hs : SrcB w1 (.slice sp n cap) x) (hn : n = x.length) (hx : x.length ≤ 32) (hg : w1.heap[g]? = some (.cells (List.replicate 32 (bV 0)).toArray T (0, 0))) :
    ∃ w2, (∀ ty, (Builtin.copy_ #[28, 28] ty #[.slice (some ⟨g, 0, none⟩) 32 32, .slice sp n cap]).run Tryd.prog w1 = .ok (goInt n) w2) ∧ w2.heap[g]? = some (.cells ((padH x).map bV).toArray T (0, 0)) ∧ Below g w1 w2 := by
  have hsz : (Tryd.prog.info? 5).map (·.size) = some 1 := by kernel_rfl
  have hmin : Nat.min n 32 = n := Nat.min_eq_left (by omega)
  by_cases h0 : n = 0
  · have hx0 : x = [] := List.eq_nil_of_length_eq_zero (by omega)
    refine ⟨w1, fun ty => ?_, ?_, Below.refl _ _⟩
    · rw [h0]
      exact run_copy_none w1 28 28 ty 5 (some ⟨g, 0, none⟩) sp 32 32 0 cap Tryd.underlying28 hsz rfl
    · rw [hx0, hg]
      simp [padH]
  · obtain ⟨-, ad, rfl, hc⟩ := src_cells hs g 0 (by simp; omega)
    refine ⟨_, fun ty => ?_, setRow_heap w1 g _ _ _ _ hg, below_setRow (Below.refl _ _) (Nat.le_refl _) _⟩
    have h := run_copy_row (P := Tryd.prog) w1 28 28 ty 5 g 0 32 32 ad n cap _ T (x.map bV) Tryd.underlying28 hsz hg (by rw [List.length_map, hmin, hn]) hc (by simp; omega) (bV_one' _)
    have e := splice_zero x hx
    unfold splice at e
    rw [List.length_map] at e h
    rw [← hn] at h e
    rw [← List.append_assoc] at e
    simp only [] at h
    rw [e] at h
    exact h
set_option maxHeartbeats 1000000 in
set_option maxRecDepth 100000 in
theorem hash_is (E : Nat → Addr) (m : Nat) (bs x b : List UInt8) (c d r : Nat) (w : World) (hE : ErR w E r) (hr : RdI E m w r bs c) (ht : takeL 32 bs c = (x, b, d)) :
    Calls Tryd.prog 29 #[.pointer (some ⟨r, 0, none⟩)] w (HashPost E m x b d r w) := by
  have hb0 : ∀ o, Below w.heap.size w (w.alloc o).drew := fun o => ((Below.refl _ _).alloc (Nat.le_refl _) o).drew
  have HE : Hid (∀ o, ErR (w.alloc o).drew E r) := fun o => hE.below (hb0 o)
  have HR : Hid (∀ o, RdI E m (w.alloc o).drew r bs c) := fun o => hr.below (hb0 o)
  have HT := Lib.hid ht
  have HRW := Lib.hid hr.lt
  have HM : Hid (b ≠ [] → m < w.heap.size) := fun h => hr.m_lt (fun e => h (by
    unfold takeL at ht
    rw [e] at ht
    split at ht
    · cases ht; rfl
    · split at ht
      · cases ht; rfl
      · cases ht; simp))
  have hx : x.length ≤ 32 := by have := takeL_le 32 bs c; rw [ht] at this; exact this
  have HX := Lib.hid hx
  have HPL : Hid (((padH x).map bV).toArray.size = 32) := by show _ = _; simp [padH_length hx]
  clear hE hr ht hb0 hx
  go_enter Tryd.func29, Tryd.ntmps29
  go_wp2_with fail
  go_region_with (go_at_call 34; refine (take_is E m 32 32 rfl bs x b c d r _ (HE.out _) (HR.out _) (by omega) HT.out).mono ?_; rintro e w1 ⟨v1, rfl, s1, a1, i1, g1⟩; obtain ⟨sp1, n1, cap1, rfl, hn1, -⟩ := s1.shape'; obtain ⟨w2, hrun, hg2, hb2⟩ := copy_fact s1 hn1 HX.out (hash_row HRW.out g1); have I2 := Lib.hid (i1.at hb2 HRW.out HM.out); have F2 := Lib.hid hg2; have G2 := Lib.hid (hash_end HRW.out g1 hb2); clear s1 a1 i1 g1 hn1 hg2 hb2)
  all_goals
    go_wp2_with ((with_reducible show wpList _ _ _ _ _ _); first | (refine wpList_load_row rfl 24 (.tmp 2) rfl w.heap.size rfl 24 ((padH x).map bV).toArray (0, 0) (.array 32 5) F2.out Tryd.underlying24 rfl (by rw [HPL.out]; kernel_rfl) ?_; go_frame) | (refine wpList_store_row rfl 24 (.tmp 2) (.tmp 7) rfl w.heap.size ((padH x).map bV).toArray rfl rfl 24 _ F2.out (by rw [HPL.out]; kernel_rfl) rfl (bV_one _) ?_; go_frame))
    refine bodyPost_ret (results_cell_row rfl _ _ w.heap.size 24 ((padH x).map bV).toArray (0, 0) (.array 32 5) rfl (setRow_heap _ _ _ _ _ _ F2.out) Tryd.underlying24 rfl (by rw [HPL.out]; kernel_rfl)) rfl ⟨rfl, I2.out.at (below_setRow (Below.refl _ _) (Nat.le_refl _) _) HRW.out HM.out, grown_then G2.out (below_setRow (Below.refl _ _) (Nat.le_refl _) _)⟩
end Go.Proofs.YtlfpjfhpleociaaDoor.Sha

/-
  The statements' own sight of errors: package api's errors are told apart; an error as plain data; whether an error is the one of a number. Conditions: the errors are there, each its own.
-/
namespace Go.Proofs.YtlfpjfhpleociaaDoor.Sha
open Go Go.RowKit
/-- Where package api's errors stand, in their order. -/
def errG : List Nat := [2, 0, 3, 4, 5, 6, 7, 8, 9, 10, 11, 12, 13, 14, 15, 16, 17, 18, 19, 20, 21, 1, 22, 23, 24]
/-- All errors of package api are there, each its own. -/
def Errs (w : World) (E : Nat → Addr) : Prop :=
  (∀ i, i < 25 → w.cell? ⟨errG.getD i 0, 0, none⟩ = some (errV E (i + 1)) ∧ ∃ c t, w.heap[(E i).block]? = some (.cells c t (0, 0))) ∧ ∀ i j, i < 25 → j < 25 → E i = E j → i = j
theorem Errs.below {w w' : World} {E : Nat → Addr} (h : Errs w E) (hb : Below w.heap.size w w') : Errs w' E := by
  refine ⟨fun i hi => ?_, h.2⟩
  obtain ⟨h1, c, t, h2⟩ := h.1 i hi
  refine ⟨?_, c, t, ?_⟩
  · rw [hb.cell (p := ⟨errG.getD i 0, 0, none⟩) (World.block_lt_of_cell? w _ h1)]
    exact h1
  · rw [hb.block _ (Array.getElem?_eq_some_iff.1 h2).1]
    exact h2
theorem Errs.er {w : World} {E : Nat → Addr} (h : Errs w E) : Er w E := ⟨(h.1 0 (by omega)).1, (h.1 1 (by omega)).1, (h.1 3 (by omega)).1⟩
theorem Er.lt {w : World} {E : Nat → Addr} {r : Nat} (h : Er w E) (hr : w.heap.size ≤ r) : 2 ≠ r ∧ 0 ≠ r ∧ 4 ≠ r := by
  have h1 : 2 < w.heap.size := World.block_lt_of_cell? w _ h.1
  have h2 : 0 < w.heap.size := World.block_lt_of_cell? w _ h.2.1
  have h3 : 4 < w.heap.size := World.block_lt_of_cell? w _ h.2.2
  exact ⟨by omega, by omega, by omega⟩
theorem info_err : (Tryd.prog.info? 95).map (·.comparable) = some true := by kernel_rfl
theorem eql_same (a : Addr) (W : World) : (binOp .eql 31 (.iface 95 (.pointer (some a))) (.iface 95 (.pointer (some a)))).run Tryd.prog W = .ok (.bool true) W := by
  obtain ⟨i, hi, hc⟩ := Option.map_eq_some_iff.1 info_err
  obtain ⟨j, hj, hs⟩ := Option.map_eq_some_iff.1 (show (Tryd.prog.info? 113).map (·.size) = some 1 by kernel_rfl)
  exact run_eql_iface_ptr_same W a Tryd.underlying31 Tryd.underlying95 hi hc hj
theorem eql_other {a b : Addr} {W : World} (hne : a ≠ b) (ha : ∃ c t, W.heap[a.block]? = some (.cells c t (0, 0))) (hb : ∃ c t, W.heap[b.block]? = some (.cells c t (0, 0))) :
    (binOp .eql 31 (.iface 95 (.pointer (some a))) (.iface 95 (.pointer (some b)))).run Tryd.prog W = .ok (.bool false) W := by
  obtain ⟨i, hi, hc⟩ := Option.map_eq_some_iff.1 info_err
  obtain ⟨j, hj, hs⟩ := Option.map_eq_some_iff.1 (show (Tryd.prog.info? 113).map (·.size) = some 1 by kernel_rfl)
  obtain ⟨ca, ta, ha⟩ := ha
  obtain ⟨cb, tb, hb⟩ := hb
  exact run_eql_iface_ptr_other W Tryd.underlying31 Tryd.underlying95 hi hc hj (by omega) hne ha hb
set_option maxRecDepth 100000 in
/-- Two of the errors: the same only if they are one. -/
theorem alike_err (E : Nat → Addr) (i j : Nat) (b : Bool) (w : World) (hE : Errs w E) (hi : i < 25) (hj : j < 25) (hb : b = decide (i = j)) :
    Calls Tryd.prog 42 #[errV E (i + 1), errV E (j + 1)] w fun e w' => e = .returned (.bool b) ∧ w = w' := by
  have hq : (binOp .eql 31 (.iface 95 (.pointer (some (E i)))) (.iface 95 (.pointer (some (E j))))).run Tryd.prog w = .ok (.bool b) w := by
    by_cases h : i = j
    · subst h
      rw [hb, decide_eq_true rfl]
      exact eql_same _ _
    · rw [hb, decide_eq_false h]
      exact eql_other (fun e => h (hE.2 i j hi hj e)) (hE.1 i hi).2 (hE.1 j hj).2
  show Calls Tryd.prog 42 #[.iface 95 (.pointer (some (E i))), .iface 95 (.pointer (some (E j)))] w _
  obtain ⟨a1, h1⟩ : ∃ a1, a1 = E i := ⟨_, rfl⟩
  obtain ⟨a2, h2⟩ : ∃ a2, a2 = E j := ⟨_, rfl⟩
  rw [← h1, ← h2] at hq ⊢
  clear h1 h2 hE hi hj hb
  go_enter Tryd.func42, Tryd.ntmps42
  go_wp2
  go_ret
  exact ⟨rfl, rfl⟩
/-- The list of the errors. -/
def errL (E : Nat → Addr) : List Value := [.iface 95 (.pointer (some (E 0))), .iface 95 (.pointer (some (E 1))), .iface 95 (.pointer (some (E 2))), .iface 95 (.pointer (some (E 3))), .iface 95 (.pointer (some (E 4))), .iface 95 (.pointer (some (E 5))), .iface 95 (.pointer (some (E 6))), .iface 95 (.pointer (some (E 7))), .iface 95 (.pointer (some (E 8))), .iface 95 (.pointer (some (E 9))), .iface 95 (.pointer (some (E 10))), .iface 95 (.pointer (some (E 11))), .iface 95 (.pointer (some (E 12))), .iface 95 (.pointer (some (E 13))), .iface 95 (.pointer (some (E 14))), .iface 95 (.pointer (some (E 15))), .iface 95 (.pointer (some (E 16))), .iface 95 (.pointer (some (E 17))), .iface 95 (.pointer (some (E 18))), .iface 95 (.pointer (some (E 19))), .iface 95 (.pointer (some (E 20))), .iface 95 (.pointer (some (E 21))), .iface 95 (.pointer (some (E 22))), .iface 95 (.pointer (some (E 23))), .iface 95 (.pointer (some (E 24)))]
theorem errL_get (E : Nat → Addr) : ∀ i, i < 25 → (errL E).toArray[i]? = some (errV E (i + 1)) := by
  intro i hi
  have h : i = 0 ∨ i = 1 ∨ i = 2 ∨ i = 3 ∨ i = 4 ∨ i = 5 ∨ i = 6 ∨ i = 7 ∨ i = 8 ∨ i = 9 ∨ i = 10 ∨ i = 11 ∨ i = 12 ∨ i = 13 ∨ i = 14 ∨ i = 15 ∨ i = 16 ∨ i = 17 ∨ i = 18 ∨ i = 19 ∨ i = 20 ∨ i = 21 ∨ i = 22 ∨ i = 23 ∨ i = 24 := by omega
  rcases h with rfl | rfl | rfl | rfl | rfl | rfl | rfl | rfl | rfl | rfl | rfl | rfl | rfl | rfl | rfl | rfl | rfl | rfl | rfl | rfl | rfl | rfl | rfl | rfl | rfl <;> rfl
set_option maxRecDepth 100000 in
set_option maxHeartbeats 1000000 in
theorem sentinels_any (E : Nat → Addr) (w : World) (hE : Errs w E) :
    Calls Tryd.prog 41 #[] w fun e w' => e = .returned (.slice (some ⟨w.heap.size, 0, none⟩) 25 25) ∧ w'.heap[w.heap.size]? = some (.cells (errL E).toArray 31 (0, 0)) ∧ Below w.heap.size w w' := by
  have c0 : w.cell? ⟨2, 0, none⟩ = some (.iface 95 (.pointer (some (E 0)))) := (hE.1 0 (by omega)).1
  have c1 : w.cell? ⟨0, 0, none⟩ = some (.iface 95 (.pointer (some (E 1)))) := (hE.1 1 (by omega)).1
  have c2 : w.cell? ⟨3, 0, none⟩ = some (.iface 95 (.pointer (some (E 2)))) := (hE.1 2 (by omega)).1
  have c3 : w.cell? ⟨4, 0, none⟩ = some (.iface 95 (.pointer (some (E 3)))) := (hE.1 3 (by omega)).1
  have c4 : w.cell? ⟨5, 0, none⟩ = some (.iface 95 (.pointer (some (E 4)))) := (hE.1 4 (by omega)).1
  have c5 : w.cell? ⟨6, 0, none⟩ = some (.iface 95 (.pointer (some (E 5)))) := (hE.1 5 (by omega)).1
  have c6 : w.cell? ⟨7, 0, none⟩ = some (.iface 95 (.pointer (some (E 6)))) := (hE.1 6 (by omega)).1
  have c7 : w.cell? ⟨8, 0, none⟩ = some (.iface 95 (.pointer (some (E 7)))) := (hE.1 7 (by omega)).1
  have c8 : w.cell? ⟨9, 0, none⟩ = some (.iface 95 (.pointer (some (E 8)))) := (hE.1 8 (by omega)).1
  have c9 : w.cell? ⟨10, 0, none⟩ = some (.iface 95 (.pointer (some (E 9)))) := (hE.1 9 (by omega)).1
  have c10 : w.cell? ⟨11, 0, none⟩ = some (.iface 95 (.pointer (some (E 10)))) := (hE.1 10 (by omega)).1
  have c11 : w.cell? ⟨12, 0, none⟩ = some (.iface 95 (.pointer (some (E 11)))) := (hE.1 11 (by omega)).1
  have c12 : w.cell? ⟨13, 0, none⟩ = some (.iface 95 (.pointer (some (E 12)))) := (hE.1 12 (by omega)).1
  have c13 : w.cell? ⟨14, 0, none⟩ = some (.iface 95 (.pointer (some (E 13)))) := (hE.1 13 (by omega)).1
  have c14 : w.cell? ⟨15, 0, none⟩ = some (.iface 95 (.pointer (some (E 14)))) := (hE.1 14 (by omega)).1
  have c15 : w.cell? ⟨16, 0, none⟩ = some (.iface 95 (.pointer (some (E 15)))) := (hE.1 15 (by omega)).1
  have c16 : w.cell? ⟨17, 0, none⟩ = some (.iface 95 (.pointer (some (E 16)))) := (hE.1 16 (by omega)).1
  have c17 : w.cell? ⟨18, 0, none⟩ = some (.iface 95 (.pointer (some (E 17)))) := (hE.1 17 (by omega)).1
  have c18 : w.cell? ⟨19, 0, none⟩ = some (.iface 95 (.pointer (some (E 18)))) := (hE.1 18 (by omega)).1
  have c19 : w.cell? ⟨20, 0, none⟩ = some (.iface 95 (.pointer (some (E 19)))) := (hE.1 19 (by omega)).1
  have c20 : w.cell? ⟨21, 0, none⟩ = some (.iface 95 (.pointer (some (E 20)))) := (hE.1 20 (by omega)).1
  have c21 : w.cell? ⟨1, 0, none⟩ = some (.iface 95 (.pointer (some (E 21)))) := (hE.1 21 (by omega)).1
  have c22 : w.cell? ⟨22, 0, none⟩ = some (.iface 95 (.pointer (some (E 22)))) := (hE.1 22 (by omega)).1
  have c23 : w.cell? ⟨23, 0, none⟩ = some (.iface 95 (.pointer (some (E 23)))) := (hE.1 23 (by omega)).1
  have c24 : w.cell? ⟨24, 0, none⟩ = some (.iface 95 (.pointer (some (E 24)))) := (hE.1 24 (by omega)).1
  clear hE
  go_enter Tryd.func41, Tryd.ntmps41
  go_wp2
  go_ret
  exact ⟨rfl, by rw [heap_alloc_new]; rfl, (Below.refl _ _).alloc (Nat.le_refl _) _⟩
def SnInv (E : Nat → Addr) (q : Nat) (w : World) (vi : Value) (wr : World) : Prop := ∃ k : Nat, k ≤ q ∧ vi = .int .i64 k ∧ wr.heap[w.heap.size]? = some (.cells (errL E).toArray 31 (0, 0)) ∧ Below w.heap.size w wr
set_option maxRecDepth 100000 in
/-- The number of an error. -/
theorem sentinel_any (E : Nat → Addr) (q : Nat) (kk : Int) (hkk : kk = ((101 + q : Nat) : Int)) (w : World) (hE : Errs w E) (hq : q < 25) :
    Calls Tryd.prog 36 #[errV E (q + 1)] w fun e w' => e = .returned (.int .i64 kk) ∧ Below w.heap.size w w' := by
  have HE := Lib.hid hE
  have HKK := Lib.hid hkk
  clear hE hkk
  show Calls Tryd.prog 36 #[.iface 95 (.pointer (some (E q)))] w _
  go_enter Tryd.func36, Tryd.ntmps36
  go_wp2_with fail
  refine (sentinels_any E _ HE.out).mono ?_
  rintro e w1 ⟨rfl, h1, hb1⟩
  have H1 := Lib.hid h1
  have B1 := Lib.hid hb1
  clear h1 hb1
  go_wp2_with fail
  go_loopw [4] (fun vi wr => SnInv E q w vi wr) (fun vi _ => 25 - (intOf vi).toNat)
  case atStart => exact ⟨0, by omega, rfl, H1.out, B1.out⟩
  case round =>
    clear H1 B1
    obtain ⟨k, hk, rfl, h1, hb⟩ := hrel
    have ck : wr.cell? ⟨w.heap.size, k, none⟩ = some (errV E (k + 1)) := by rw [cell_of_row _ _ _ _ _ _ h1]; exact errL_get E k (by omega)
    have H1 := Lib.hid h1
    have HB := Lib.hid hb
    clear h1 hb
    have hlt : (k : Int) < 25 := by omega
    by_cases hkq : k = q
    · have hb : true = decide (q = k) := (decide_eq_true hkq.symm).symm
      have HA := Lib.hid (alike_err E q k true wr (HE.out.below HB.out) hq (by omega) hb)
      have HQ : Hid (101 + (k : Int) = kk) := by show _ = _; rw [HKK.out]; omega
      clear hkq hb
      go_wp2_with fail
      refine HA.out.mono ?_
      rintro e w' ⟨rfl, rfl⟩
      go_wp2_with fail
      go_ret
      exact ⟨ret_int HQ.out, HB.out⟩
    · have hb : false = decide (q = k) := (decide_eq_false (fun e => hkq e.symm)).symm
      have HA := Lib.hid (alike_err E q k false wr (HE.out.below HB.out) hq (by omega) hb)
      have hk2 : k + 1 ≤ q := by omega
      clear hkq hb
      go_wp2_with fail
      refine HA.out.mono ?_
      rintro e w' ⟨rfl, rfl⟩
      go_wp2_with fail
      go_roundw
      case rel => exact ⟨k + 1, hk2, by go_num, H1.out, HB.out⟩
      case measure => simp [intOf]; omega
end Go.Proofs.YtlfpjfhpleociaaDoor.Sha

/-
  The statements' own Fault, Same and Is: an error of package api, or none, is told by its number. Conditions: the errors are there, each its own.
-/
namespace Go.Proofs.YtlfpjfhpleociaaDoor.Sha
open Go Go.RowKit
/-- A fault with nothing around it. -/
def fC (c : Int) : List Value := [.int .i64 c, .bool false, .int .i64 0, .bool false, .int .i64 0]
/-- The number of an error. -/
def numE : Nat → Int
  | 0 => 0
  | q + 1 => ((101 + q : Nat) : Int)
set_option maxRecDepth 100000 in
theorem none_any (w : World) : Calls Tryd.prog 35 #[] w fun e w' => e = .returned (.agg (fC 0).toArray) ∧ Below w.heap.size w w' := by
  go_enter Tryd.func35, Tryd.ntmps35
  go_wp2
  refine bodyPost_ret (v := .agg (fC 0).toArray) (by simp [results, Tryd.results35, go_sem]; rfl) rfl ⟨rfl, ?_⟩
  exact (Below.refl _ _).alloc (Nat.le_refl _) _
set_option maxRecDepth 100000 in
theorem bare_any (c : Int) (w : World) : Calls Tryd.prog 23 #[.int .i64 c] w fun e w' => e = .returned (.agg (fC c).toArray) ∧ Below w.heap.size w w' := by
  go_enter Tryd.func23, Tryd.ntmps23
  go_wp2
  refine bodyPost_ret (v := .agg (fC c).toArray) (by simp [results, Tryd.results23, go_sem]; rfl) rfl ⟨rfl, ?_⟩
  exact (Below.refl _ _).alloc (Nat.le_refl _) _
theorem fault_all (c : Int) : (fC c).toArray.all (·.oneCell') = true := by
  rw [Array.all_eq_true_iff_forall_mem]
  intro x hx
  simp [fC] at hx
  rcases hx with rfl | rfl | rfl | rfl | rfl <;> rfl
set_option maxRecDepth 100000 in
theorem fault_nil (w : World) : Calls Tryd.prog 31 #[.nilIface] w fun e w' => e = .returned (.agg (fC 0).toArray) ∧ Below w.heap.size w w' := by
  go_enter Tryd.func31, Tryd.ntmps31
  go_wp2_with fail
  refine (none_any _).mono ?_
  rintro e w1 ⟨rfl, hb1⟩
  obtain ⟨hb2, hr, hlt⟩ := twice_setup hb1
  have HB1 := Lib.hid hb2
  have HR := Lib.hid hr
  clear hb1 hb2 hr
  go_wp2_with ((with_reducible show wpList _ _ _ _ _ _); refine wpList_store_row rfl 54 (.tmp 2) (.tmp 9) rfl w.heap.size (fC 0).toArray rfl rfl 54 _ HR.out (by kernel_rfl) rfl (fault_all _) ?_; go_frame)
  refine bodyPost_ret (results_cell_row rfl _ _ w.heap.size 54 (fC 0).toArray (0, 0) _ rfl (setRow_heap _ _ _ _ _ _ HR.out) Tryd.underlying54 rfl (by kernel_rfl)) rfl ⟨rfl, below_setRow HB1.out (Nat.le_refl _) _⟩
set_option maxRecDepth 100000 in
theorem fault_err (E : Nat → Addr) (q : Nat) (w : World) (hE : Errs w E) (hq : q < 25) : Calls Tryd.prog 31 #[errV E (q + 1)] w fun e w' => e = .returned (.agg (fC ((101 + q : Nat) : Int)).toArray) ∧ Below w.heap.size w w' := by
  obtain ⟨kk, hkk⟩ : ∃ kk : Int, kk = ((101 + q : Nat) : Int) := ⟨_, rfl⟩
  rw [← hkk]
  have hta : ∀ W, (Instr.typeAssert (.iface 95 (.pointer (some (E q)))) 31 69 true).run Tryd.prog W = .ok (.tuple #[.pointer none, .bool false]) W := fun W => by kernel_rfl
  have hb0 : ∀ o, Below w.heap.size w (w.alloc o) := fun o => (Below.refl _ _).alloc (Nat.le_refl _) o
  have HS : Hid (∀ o, Calls Tryd.prog 36 #[errV E (q + 1)] (w.alloc o) fun e w' => e = .returned (.int .i64 kk) ∧ Below (w.alloc o).heap.size (w.alloc o) w') := fun o => sentinel_any E q kk hkk _ (hE.below (hb0 o)) hq
  clear hb0 hkk hE
  show Calls Tryd.prog 31 #[.iface 95 (.pointer (some (E q)))] w _
  go_enter Tryd.func31, Tryd.ntmps31
  go_wp2_with fail
  refine (HS.out _).mono ?_
  rintro e w1 ⟨rfl, hb1⟩
  obtain ⟨hb2, hr, hlt⟩ := twice_setup hb1
  have HB0 := Lib.hid hb2
  have HR0 := Lib.hid hr
  clear hb1 hb2 hr hta
  go_wp2_with fail
  refine (bare_any kk _).mono ?_
  rintro e w2 ⟨rfl, hb2⟩
  have HR := Lib.hid ((hb2.block _ hlt).trans HR0.out)
  have HB1 := Lib.hid (HB0.out.trans (hb2.mono HB0.out.size))
  clear hb2 HB0 HR0
  go_wp2_with ((with_reducible show wpList _ _ _ _ _ _); refine wpList_store_row rfl 54 (.tmp 2) (.tmp 19) rfl w.heap.size (fC kk).toArray rfl rfl 54 _ HR.out (by kernel_rfl) rfl (fault_all _) ?_; go_frame)
  refine bodyPost_ret (results_cell_row rfl _ _ w.heap.size 54 (fC kk).toArray (0, 0) _ rfl (setRow_heap _ _ _ _ _ _ HR.out) Tryd.underlying54 rfl (by kernel_rfl)) rfl ⟨rfl, below_setRow HB1.out (Nat.le_refl _) _⟩
set_option maxRecDepth 100000 in
theorem samefault_any (a c : Int) (b : Bool) (hb : b = (a == c)) (w : World) : Calls Tryd.prog 30 #[.agg (fC a).toArray, .agg (fC c).toArray] w fun e w' => e = .returned (.bool b) ∧ Below w.heap.size w w' := by
  show Calls Tryd.prog 30 #[.agg #[.int .i64 a, .bool false, .int .i64 0, .bool false, .int .i64 0], .agg #[.int .i64 c, .bool false, .int .i64 0, .bool false, .int .i64 0]] w _
  cases b with
  | true =>
    have hq : (a == c) = true := hb.symm
    clear hb
    go_enter Tryd.func30, Tryd.ntmps30
    go_wp2
    go_ret
    exact ⟨rfl, ((Below.refl _ _).alloc (Nat.le_refl _) _).alloc (by simp) _⟩
  | false =>
    have hq : (a == c) = false := hb.symm
    clear hb
    go_enter Tryd.func30, Tryd.ntmps30
    go_wp2
    go_ret
    exact ⟨rfl, ((Below.refl _ _).alloc (Nat.le_refl _) _).alloc (by simp) _⟩
theorem fault_any (E : Nat → Addr) (c : Nat) (w : World) (hE : Errs w E) (hc : c ≤ 25) : Calls Tryd.prog 31 #[errV E c] w fun e w' => e = .returned (.agg (fC (numE c)).toArray) ∧ Below w.heap.size w w' := by
  cases c with
  | zero => exact fault_nil w
  | succ q => exact fault_err E q w hE (by omega)
set_option maxRecDepth 100000 in
theorem same_err (E : Nat → Addr) (c : Nat) (k : Int) (b : Bool) (hb : b = (numE c == k)) (w : World) (hE : Errs w E) (hc : c ≤ 25) :
    Calls Tryd.prog 22 #[errV E c, .agg (fC k).toArray] w fun e w' => e = .returned (.bool b) ∧ Below w.heap.size w w' := by
  obtain ⟨x, hx⟩ : ∃ x, x = errV E c := ⟨_, rfl⟩
  obtain ⟨n, hn⟩ : ∃ n, n = numE c := ⟨_, rfl⟩
  have HF : Hid (∀ W, Below w.heap.size w W → Calls Tryd.prog 31 #[x] W fun e w' => e = .returned (.agg (fC n).toArray) ∧ Below W.heap.size W w') := fun W hW => by rw [hx, hn]; exact fault_any E c W (hE.below hW) hc
  have HBB : Hid (b = (n == k)) := by show _ = _; rw [hn]; exact hb
  rw [← hx]
  clear hx hn hb hE hc
  go_enter Tryd.func22, Tryd.ntmps22
  go_wp2_with fail
  have e1 := heap_alloc_new w (.cells (fC k).toArray 54)
  have b1 : Below w.heap.size w (w.alloc (.cells (fC k).toArray 54)) := (Below.refl _ _).alloc (Nat.le_refl _) _
  generalize hw1 : World.alloc _ _ = w1
  have e0 : w.alloc (.cells (fC k).toArray 54) = w1 := hw1
  rw [e0] at e1 b1
  have E1 := Lib.hid e1
  have B1 := Lib.hid b1
  clear e0 hw1 e1 b1
  refine wp_region_below (by kernel_rfl) (by kernel_rfl) w1 (Below.refl _ _) ?_
  go_big_quiet_step ((intro _; rfl))
  go_big_quiet_step ((intro hw'; exact cls hw' (HF.out _ (B1.out.trans (hw'.mono B1.out.size)))))
  go_big_quiet_want
  refine quiet_load_row 54 (.tmp 3) rfl w.heap.size rfl 54 (fC k).toArray (0, 0) _ (fun w' hw' => row_below E1.out hw') Tryd.underlying54 rfl (by kernel_rfl) ?_
  go_frame
  go_big_quiet_on
  go_big_quiet_step ((intro hw'; exact cls hw' (samefault_any n k b HBB.out _)))
  go_big_quiet_step ((intro _; rfl))
  refine wpQuiet_nil ?_
  intro w2 hw2
  have B2 := Lib.hid (B1.out.trans (hw2.mono B1.out.size))
  clear hw2
  go_wp2_with fail
  go_ret
  exact ⟨rfl, B2.out⟩
set_option maxRecDepth 100000 in
/-- Is the error the one of this number? -/
theorem is_any (E : Nat → Addr) (c : Nat) (k : Int) (b : Bool) (hb : b = (numE c == k)) (w : World) (hE : Errs w E) (hc : c ≤ 25) :
    Calls Tryd.prog 12 #[errV E c, .int .i64 k] w fun e w' => e = .returned (.bool b) ∧ Below w.heap.size w w' := by
  obtain ⟨x, hx⟩ : ∃ x, x = errV E c := ⟨_, rfl⟩
  have HF : Hid (∀ W, Below w.heap.size w W → Calls Tryd.prog 22 #[x, .agg (fC k).toArray] W fun e w' => e = .returned (.bool b) ∧ Below W.heap.size W w') := fun W hW => by rw [hx]; exact same_err E c k b hb W (hE.below hW) hc
  rw [← hx]
  clear hx hb hE hc
  go_enter Tryd.func12, Tryd.ntmps12
  go_wp2_with fail
  refine (bare_any k _).mono ?_
  rintro e w1 ⟨rfl, hb1⟩
  have B1 := Lib.hid hb1
  clear hb1
  go_wp2_with fail
  refine (HF.out _ B1.out).mono ?_
  rintro e w2 ⟨rfl, hb2⟩
  have B2 := Lib.hid (B1.out.trans (hb2.mono B1.out.size))
  clear hb2
  go_wp2_with fail
  go_ret
  exact ⟨rfl, B2.out⟩
end Go.Proofs.YtlfpjfhpleociaaDoor.Sha

/-
  A Reader in a walk: how it stands behind each step, whatever else makes memory. Conditions: those that each states.
-/
namespace Go.Proofs.YtlfpjfhpleociaaDoor.Sha
open Go Go.RowKit
/-- A Reader made since W; nothing that was there in W has turned. -/
def RS (E : Nat → Addr) (m : Nat) (W w : World) (r : Nat) (bs : List UInt8) (c : Nat) : Prop := RdI E m w r bs c ∧ Below W.heap.size W w ∧ W.heap.size ≤ r
variable {E : Nat → Addr} {m r c d : Nat} {W w w' : World} {bs b : List UInt8}
theorem RS.keep (h : RS E m W w r bs c) (hb : Below w.heap.size w w') : RS E m W w' r bs c := ⟨h.1.below hb, h.2.1.trans (hb.mono h.2.1.size), h.2.2⟩
theorem RS.lt (h : RS E m W w r bs c) : r < w.heap.size := h.1.lt
theorem RS.er (h : RS E m W w r bs c) (hE : Er W E) : ErR w E r := ⟨hE.below h.2.1, hE.lt h.2.2⟩
theorem takeL_err (k : Nat) (bs : List UInt8) (c : Nat) (h : c ≠ 0) : takeL k bs c = ([], bs, c) := by unfold takeL; rw [if_pos h]
theorem takeL_end (k : Nat) (bs : List UInt8) (h : bs.length < k) : takeL k bs 0 = ([], bs, 1) := by unfold takeL; rw [if_neg (by omega), if_pos h]
theorem takeL_ok (k : Nat) (bs : List UInt8) (h : k ≤ bs.length) : takeL k bs 0 = (bs.take k, bs.drop k, 0) := by unfold takeL; rw [if_neg (by omega), if_neg (by omega)]
theorem takeL_app (xs ys : List UInt8) (k : Nat) (h : xs.length = k) : takeL k (xs ++ ys) 0 = (xs, ys, 0) := by
  subst h
  rw [takeL_ok _ _ (by simp)]
  simp
end Go.Proofs.YtlfpjfhpleociaaDoor.Sha

/-
  Plain mathematics of readers of bytes, one behind the other: what was written is read again; cut off it ends too early; what is read has just these bytes. No conditions beyond those that each states.
-/
namespace Go.Proofs.YtlfpjfhpleociaaDoor.Sha
open Go Go.RowKit
/-- A reader of bytes: what it answers, what it leaves, what it met. -/
abbrev Par (α : Type) := List UInt8 → Nat → α × List UInt8 × Nat
def thenP {α β : Type} (p : Par α) (q : α → Par β) : Par β := fun bs c => q (p bs c).1 (p bs c).2.1 (p bs c).2.2
def mapP {α β : Type} (f : α → β) (p : Par α) : Par β := fun bs c => (f (p bs c).1, (p bs c).2)
def manyP {α : Type} (p : Par α) : Nat → Par (List α)
  | 0, bs, c => ([], bs, c)
  | n + 1, bs, c => if c ≠ 0 then ([], bs, c) else thenP p (fun a => mapP (a :: ·) (manyP p n)) bs c
/-- Bytes that it reads whole, whatever stands behind; cut off, they end too early. -/
def Good {α : Type} (p : Par α) (a : α) (x : List UInt8) : Prop := (∀ y, p (x ++ y) 0 = (a, y, 0)) ∧ ∀ k, k < x.length → (p (x.take k) 0).2.2 = 1
/-- An error stays. -/
def Stay {α : Type} (p : Par α) : Prop := ∀ bs c, c ≠ 0 → (p bs c).2.2 = c
/-- What is read stands so to the bytes that it was read from. -/
def BackR {α : Type} (p : Par α) (R : α → List UInt8 → Prop) : Prop := ∀ bs a r, p bs 0 = (a, r, 0) → ∃ x, bs = x ++ r ∧ R a x
section
variable {α β : Type} {p : Par α} {q : α → Par β} {a : α} {b : β} {x y : List UInt8}
theorem Good.andThen (h1 : Good p a x) (h2 : Good (q a) b y) (hs : ∀ a, Stay (q a)) : Good (thenP p q) b (x ++ y) := by
  refine ⟨fun z => ?_, fun k hk => ?_⟩
  · unfold thenP
    rw [List.append_assoc, h1.1]
    exact h2.1 z
  · by_cases h : k < x.length
    · rw [List.take_append_of_le_length (by omega)]
      unfold thenP
      rw [h1.2 k h]
      exact hs _ _ 1 (by omega)
    · rw [List.take_append, List.take_of_length_le (by omega)]
      unfold thenP
      rw [h1.1]
      exact h2.2 (k - x.length) (by rw [List.length_append] at hk; omega)
theorem Good.map (f : α → β) (h : Good p a x) : Good (mapP f p) (f a) x :=
  ⟨fun z => by unfold mapP; rw [h.1], fun k hk => h.2 k hk⟩
theorem Stay.andThen (h1 : Stay p) (h2 : ∀ a, Stay (q a)) : Stay (thenP p q) := fun bs c hc => by
  unfold thenP
  have e := h1 bs c hc
  rw [h2 _ _ _ (by rw [e]; exact hc), e]
theorem Stay.map (f : α → β) (h : Stay p) : Stay (mapP f p) := fun bs c hc => h bs c hc
theorem BackR.andThen {R : α → List UInt8 → Prop} {S : α → β → List UInt8 → Prop} (h1 : BackR p R) (h2 : ∀ a, BackR (q a) (S a)) (hs : ∀ a, Stay (q a)) : BackR (thenP p q) (fun b z => ∃ a x y, z = x ++ y ∧ R a x ∧ S a b y) := by
  intro bs b r h
  unfold thenP at h
  have hc : (p bs 0).2.2 = 0 := by
    by_cases h0 : (p bs 0).2.2 = 0
    · exact h0
    · have e := hs (p bs 0).1 (p bs 0).2.1 (p bs 0).2.2 h0
      rw [h] at e
      exact e.symm
  rw [hc] at h
  obtain ⟨x, e1, r1⟩ := h1 bs (p bs 0).1 (p bs 0).2.1 (Prod.ext rfl (Prod.ext rfl hc))
  obtain ⟨y, e2, r2⟩ := h2 _ _ _ _ h
  exact ⟨x ++ y, by rw [List.append_assoc, ← e2]; exact e1, _, x, y, rfl, r1, r2⟩
theorem BackR.map {R : α → List UInt8 → Prop} (f : α → β) (h : BackR p R) : BackR (mapP f p) (fun b z => ∃ a, b = f a ∧ R a z) := by
  intro bs b r h1
  unfold mapP at h1
  simp only [Prod.mk.injEq] at h1
  obtain ⟨x, e, hr⟩ := h bs (p bs 0).1 r (by rw [← h1.2])
  exact ⟨x, e, _, h1.1.symm, hr⟩
end
theorem stay_take (k : Nat) : Stay (takeL k) := fun bs c hc => by rw [takeL_err k bs c hc]
theorem good_take (x : List UInt8) (k : Nat) (h : x.length = k) : Good (takeL k) x x :=
  ⟨fun y => takeL_app x y k h, fun j hj => by rw [takeL_end k _ (by rw [List.length_take]; omega)]⟩
/-- So many bytes as a number. -/
def leP (k : Nat) : Par Nat := mapP leN (takeL k)
theorem stay_le (k : Nat) : Stay (leP k) := (stay_take k).map _
theorem leN_inj : ∀ (l m : List UInt8), l.length = m.length → leN l = leN m → l = m
  | [], [], _, _ => rfl
  | x :: l, y :: m, hl, h => by
    have h1 : x.toNat + 256 * leN l = y.toNat + 256 * leN m := h
    have hx := x.toNat_lt
    have hy := y.toNat_lt
    have e1 : x.toNat = y.toNat := by omega
    have e2 : leN l = leN m := by omega
    rw [leN_inj l m (by simpa using hl) e2, UInt8.toNat_inj.1 e1]
theorem leB_leN (l : List UInt8) : leB (leN l) l.length = l :=
  leN_inj _ _ (leB_length _ _) (leN_leB_of (leN_lt l))
theorem good_le (n k : Nat) (h : n < 256 ^ k) : Good (leP k) n (leB n k) := by
  have g := (good_take (leB n k) k (leB_length n k)).map leN
  rw [leN_leB_of h] at g
  exact g
end Go.Proofs.YtlfpjfhpleociaaDoor.Sha

/-
  Plain mathematics of a block's header: its bytes; read out of bytes it is what was written, cut off it ends too early, longer it has another shape; any 80 bytes are one header's. No conditions beyond those that each states.
-/
namespace Go.Proofs.YtlfpjfhpleociaaDoor.Sha
open Go Go.RowKit
structure THd where
  ver : Nat
  prev : List UInt8
  root : List UInt8
  time : Nat
  work : Nat
  nonce : Nat
def HdOk (h : THd) : Prop := h.ver ≤ 4294967295 ∧ h.prev.length = 32 ∧ h.root.length = 32 ∧ h.time ≤ 4294967295 ∧ h.work ≤ 4294967295 ∧ h.nonce ≤ 4294967295
/-- A header's bytes. -/
def hdB (h : THd) : List UInt8 := leB h.ver 4 ++ h.prev ++ h.root ++ leB h.time 4 ++ leB h.work 4 ++ leB h.nonce 4
def hdP : Par THd := thenP (leP 4) fun v => thenP (takeL 32) fun p => thenP (takeL 32) fun r => thenP (leP 4) fun t => thenP (leP 4) fun w => mapP (fun n => ⟨v, padH p, padH r, t, w, n⟩) (leP 4)
def noHd : THd := ⟨0, List.replicate 32 0, List.replicate 32 0, 0, 0, 0⟩
/-- A header out of a Reader: none where an error was met. -/
def takeHd (bs : List UInt8) (c : Nat) : THd × List UInt8 × Nat := if (hdP bs c).2.2 = 0 then hdP bs c else (noHd, (hdP bs c).2)
/-- Bytes as a header, or what is amiss. -/
def readHd (bs : List UInt8) : THd × Nat := if (hdP bs 0).2.2 ≠ 0 then (noHd, (hdP bs 0).2.2) else if (hdP bs 0).2.1 ≠ [] then (noHd, 2) else ((hdP bs 0).1, 0)
theorem padH_all {x : List UInt8} (h : x.length = 32) : padH x = x := by unfold padH; rw [h]; simp
theorem hdB_length {h : THd} (hh : HdOk h) : (hdB h).length = 80 := by
  simp only [hdB, List.length_append, leB_length, hh.2.1, hh.2.2.1]
theorem good_hd (h : THd) (hh : HdOk h) : Good hdP h (hdB h) := by
  obtain ⟨h1, h2, h3, h4, h5, h6⟩ := hh
  obtain ⟨a, b, c, d, e, f⟩ := h
  simp only at h1 h2 h3 h4 h5 h6
  have g := (good_le a 4 (by omega)).andThen (q := fun v => thenP (takeL 32) fun p => thenP (takeL 32) fun r => thenP (leP 4) fun t => thenP (leP 4) fun w => mapP (fun n => (⟨v, padH p, padH r, t, w, n⟩ : THd)) (leP 4))
    ((good_take b 32 h2).andThen (q := fun p => thenP (takeL 32) fun r => thenP (leP 4) fun t => thenP (leP 4) fun w => mapP (fun n => (⟨a, padH p, padH r, t, w, n⟩ : THd)) (leP 4))
      ((good_take c 32 h3).andThen (q := fun r => thenP (leP 4) fun t => thenP (leP 4) fun w => mapP (fun n => (⟨a, padH b, padH r, t, w, n⟩ : THd)) (leP 4))
        ((good_le d 4 (by omega)).andThen (q := fun t => thenP (leP 4) fun w => mapP (fun n => (⟨a, padH b, padH c, t, w, n⟩ : THd)) (leP 4))
          ((good_le e 4 (by omega)).andThen (q := fun w => mapP (fun n => (⟨a, padH b, padH c, d, w, n⟩ : THd)) (leP 4))
            ((good_le f 4 (by omega)).map _) (fun _ => (stay_le 4).map _)) (fun _ => (stay_le 4).andThen fun _ => (stay_le 4).map _))
          (fun _ => (stay_le 4).andThen fun _ => (stay_le 4).andThen fun _ => (stay_le 4).map _))
        (fun _ => (stay_take 32).andThen fun _ => (stay_le 4).andThen fun _ => (stay_le 4).andThen fun _ => (stay_le 4).map _))
      (fun _ => (stay_take 32).andThen fun _ => (stay_take 32).andThen fun _ => (stay_le 4).andThen fun _ => (stay_le 4).andThen fun _ => (stay_le 4).map _)
  rw [padH_all h2, padH_all h3] at g
  simp only [hdB, List.append_assoc]
  exact g
/-- What was written is read again. -/
theorem hd_own {h : THd} (hh : HdOk h) : readHd (hdB h) = (h, 0) := by
  have g := (good_hd h hh).1 []
  rw [List.append_nil] at g
  unfold readHd
  rw [g]
  rfl
/-- Cut off, it ends too early. -/
theorem hd_cut {h : THd} (hh : HdOk h) {k : Nat} (hk : k < 80) : readHd ((hdB h).take k) = (noHd, 1) := by
  have g := (good_hd h hh).2 k (by rw [hdB_length hh]; exact hk)
  unfold readHd
  rw [g, if_pos (by omega)]
/-- Longer, it has another shape. -/
theorem hd_long {h : THd} (hh : HdOk h) {y : List UInt8} (hy : y ≠ []) : readHd (hdB h ++ y) = (noHd, 2) := by
  unfold readHd
  rw [(good_hd h hh).1 y, if_neg (by simp), if_pos hy]
/-- Any 80 bytes are one header's. -/
theorem hd_all (b : List UInt8) (hb : b.length = 80) : ∃ h, HdOk h ∧ hdB h = b := by
  have cut : ∀ (l : List UInt8) (k : Nat), k ≤ l.length → ∃ x y, l = x ++ y ∧ x.length = k := fun l k hk => ⟨l.take k, l.drop k, (List.take_append_drop k l).symm, by rw [List.length_take]; omega⟩
  obtain ⟨x1, y1, e1, l1⟩ := cut b 4 (by omega)
  have s1 : y1.length = 76 := by have := congrArg List.length e1; rw [List.length_append] at this; omega
  obtain ⟨x2, y2, e2, l2⟩ := cut y1 32 (by omega)
  have s2 : y2.length = 44 := by have := congrArg List.length e2; rw [List.length_append] at this; omega
  obtain ⟨x3, y3, e3, l3⟩ := cut y2 32 (by omega)
  have s3 : y3.length = 12 := by have := congrArg List.length e3; rw [List.length_append] at this; omega
  obtain ⟨x4, y4, e4, l4⟩ := cut y3 4 (by omega)
  have s4 : y4.length = 8 := by have := congrArg List.length e4; rw [List.length_append] at this; omega
  obtain ⟨x5, y5, e5, l5⟩ := cut y4 4 (by omega)
  have s5 : y5.length = 4 := by have := congrArg List.length e5; rw [List.length_append] at this; omega
  have lt : ∀ x : List UInt8, x.length = 4 → leN x ≤ 4294967295 ∧ leB (leN x) 4 = x := fun x hx => by
    have h1 := leN_lt x
    have h2 := leB_leN x
    rw [hx] at h1 h2
    exact ⟨by omega, h2⟩
  refine ⟨⟨leN x1, x2, x3, leN x4, leN x5, leN y5⟩, ⟨(lt x1 l1).1, l2, l3, (lt x4 l4).1, (lt x5 l5).1, (lt y5 s5).1⟩, ?_⟩
  simp only [hdB, (lt x1 l1).2, (lt x4 l4).2, (lt x5 l5).2, (lt y5 s5).2, List.append_assoc]
  rw [← e5, ← e4, ← e3, ← e2, ← e1]
theorem hd_inj {h g : THd} (hh : HdOk h) (hg : HdOk g) (e : hdB h = hdB g) : h = g := by
  have h1 := hd_own hh
  rw [e, hd_own hg] at h1
  exact (Prod.mk.inj h1).1.symm
end Go.Proofs.YtlfpjfhpleociaaDoor.Sha

/-
  A transaction as the model has it: inputs of 35 cells, outputs of 33, rows of them behind slices; what stands in memory keeps standing where only new memory turns. No conditions.
-/
namespace Go.Proofs.YtlfpjfhpleociaaDoor.Sha
open Go Go.RowKit
structure TIn where
  h : List UInt8
  n : Nat
  key : List UInt8
  seq : Nat
structure TOut where
  val : Nat
  lock : List UInt8
structure TTx where
  ver : Nat
  ins : List TIn
  outs : List TOut
  time : Nat
/-- A number of 64 bits as a cell. -/
def uV (n : Nat) : Value := .int .u64 (n : Int)
/-- An input's cells. -/
def inL (x : TIn) (kv : Value) : List Value := ptL x.h x.n ++ [kv, nV x.seq]
/-- An output's cells. -/
def outL (y : TOut) : List Value := uV y.val :: y.lock.map bV
/-- A key as a slice. -/
def KeyAt (w : World) (kv : Value) (key : List UInt8) : Prop := SrcB w kv key ∧ ∃ sp cap, kv = .slice sp key.length cap
theorem KeyAt.below {w w' : World} {kv : Value} {key : List UInt8} (h : KeyAt w kv key) (hb : Below w.heap.size w w') : KeyAt w' kv key := ⟨h.1.below hb, h.2⟩
/-- What may be of an input. -/
def InOk (x : TIn) : Prop := x.h.length = 32 ∧ x.n ≤ 4294967295 ∧ x.seq ≤ 4294967295
def OutOk (y : TOut) : Prop := y.lock.length = 32 ∧ y.val ≤ 18446744073709551615
/-- An input stands in block b from o on. -/
def InAt (w : World) (b o : Nat) (x : TIn) : Prop := InOk x ∧ ∃ kv, KeyAt w kv x.key ∧ w.rangeAt b o (inL x kv)
def OutAt (w : World) (b o : Nat) (y : TOut) : Prop := OutOk y ∧ w.rangeAt b o (outL y)
theorem range_below {w w' : World} {b o : Nat} {cs : List Value} (h : w.rangeAt b o cs) (hb : Below w.heap.size w w') : w'.rangeAt b o cs := fun j v hj => by
  have h1 := h j v hj
  rw [hb.cell (p := ⟨b, o + j, none⟩) (World.block_lt_of_cell? w _ h1)]
  exact h1
theorem InAt.below {w w' : World} {b o : Nat} {x : TIn} (h : InAt w b o x) (hb : Below w.heap.size w w') : InAt w' b o x := by
  obtain ⟨h0, kv, h1, h2⟩ := h
  exact ⟨h0, kv, h1.below hb, range_below h2 hb⟩
theorem OutAt.below {w w' : World} {b o : Nat} {y : TOut} (h : OutAt w b o y) (hb : Below w.heap.size w w') : OutAt w' b o y := ⟨h.1, range_below h.2 hb⟩
/-- A row of inputs behind a slice. -/
def InsAt (w : World) (v : Value) (l : List TIn) : Prop :=
  ∃ sp cap, v = .slice sp l.length cap ∧ l.length ≤ cap ∧ (0 < l.length → ∃ b o, sp = some ⟨b, o, none⟩ ∧ ∀ i x, l[i]? = some x → InAt w b (o + i * 35) x)
def OutsAt (w : World) (v : Value) (l : List TOut) : Prop :=
  ∃ sp cap, v = .slice sp l.length cap ∧ l.length ≤ cap ∧ (0 < l.length → ∃ b o, sp = some ⟨b, o, none⟩ ∧ ∀ i x, l[i]? = some x → OutAt w b (o + i * 33) x)
theorem InsAt.below {w w' : World} {v : Value} {l : List TIn} (h : InsAt w v l) (hb : Below w.heap.size w w') : InsAt w' v l := by
  obtain ⟨sp, cap, h1, h2, h3⟩ := h
  refine ⟨sp, cap, h1, h2, fun h0 => ?_⟩
  obtain ⟨b, o, h4, h5⟩ := h3 h0
  exact ⟨b, o, h4, fun i x hx => (h5 i x hx).below hb⟩
theorem OutsAt.below {w w' : World} {v : Value} {l : List TOut} (h : OutsAt w v l) (hb : Below w.heap.size w w') : OutsAt w' v l := by
  obtain ⟨sp, cap, h1, h2, h3⟩ := h
  refine ⟨sp, cap, h1, h2, fun h0 => ?_⟩
  obtain ⟨b, o, h4, h5⟩ := h3 h0
  exact ⟨b, o, h4, fun i x hx => (h5 i x hx).below hb⟩
/-- A transaction's cells. -/
def txL (t : TTx) (iv ov : Value) : List Value := [nV t.ver, iv, ov, nV t.time]
def TxOk (t : TTx) : Prop := t.ver ≤ 4294967295 ∧ t.time ≤ 4294967295
/-- A transaction by value. -/
def TxAt (w : World) (v : Value) (t : TTx) : Prop := TxOk t ∧ ∃ iv ov, v = .agg (txL t iv ov).toArray ∧ InsAt w iv t.ins ∧ OutsAt w ov t.outs
theorem TxAt.below {w w' : World} {v : Value} {t : TTx} (h : TxAt w v t) (hb : Below w.heap.size w w') : TxAt w' v t := by
  obtain ⟨h0, iv, ov, h1, h2, h3⟩ := h
  exact ⟨h0, iv, ov, h1, h2.below hb, h3.below hb⟩
end Go.Proofs.YtlfpjfhpleociaaDoor.Sha

/-
  A transaction's bytes, as the chapter says: how many there are; two that have the same bytes are the same. What is amiss with one, in the chapter's order. No conditions beyond those that each states.
-/
namespace Go.Proofs.YtlfpjfhpleociaaDoor.Sha
open Go Go.RowKit
def inB (x : TIn) : List UInt8 := x.h ++ leB x.n 4 ++ putL x.key.length ++ x.key ++ leB x.seq 4
def outB (y : TOut) : List UInt8 := leB y.val 8 ++ y.lock
def insB (l : List TIn) : List UInt8 := l.flatMap inB
def outsB (l : List TOut) : List UInt8 := l.flatMap outB
/-- A transaction's bytes. -/
def txB (t : TTx) : List UInt8 := leB t.ver 4 ++ putL t.ins.length ++ insB t.ins ++ putL t.outs.length ++ outsB t.outs ++ leB t.time 4
def InsOk (l : List TIn) : Prop := ∀ x ∈ l, InOk x
def OutsOk (l : List TOut) : Prop := ∀ y ∈ l, OutOk y
theorem outB_length (y : TOut) (h : OutOk y) : (outB y).length = 40 := by simp [outB, leB_length, h.1]
theorem inB_length (x : TIn) (h : InOk x) : (inB x).length = 40 + lenN x.key.length + x.key.length := by simp [inB, leB_length, putL_length, h.1]; omega
theorem outsB_length : ∀ (l : List TOut), OutsOk l → (outsB l).length = 40 * l.length
  | [], _ => rfl
  | y :: l, h => by
    have ih := outsB_length l (fun z hz => h z (List.mem_cons_of_mem _ hz))
    simp only [outsB] at ih
    simp only [outsB, List.flatMap_cons, List.length_append, ih, outB_length y (h y List.mem_cons_self), List.length_cons]
    omega
def KeysLe (l : List TIn) (n : Nat) : Prop := ∀ x ∈ l, x.key.length ≤ n
end Go.Proofs.YtlfpjfhpleociaaDoor.Sha

/-
  How a transaction that came in by value reads. No conditions.
-/
namespace Go.Proofs.YtlfpjfhpleociaaDoor.Sha
open Go Go.ChangeShapes Go.WideShapes Go.ChangeAt Go.RowKit Go.Deep
/-- All that is known of a transaction that came in. -/
def TxCame (t : TTx) : Prop := TxOk t ∧ InsOk t.ins ∧ OutsOk t.outs ∧ KeysLe t.ins 9223372036854775807 ∧ t.ins.length ≤ 9223372036854775807 ∧ t.outs.length ≤ 9223372036854775807
end Go.Proofs.YtlfpjfhpleociaaDoor.Sha

/-
  The statements' own Number brings any number into its bound; nothing that was there turns. Condition: a bound from 1 on.
-/
namespace Go.Proofs.YtlfpjfhpleociaaDoor.Sha
open Go Go.RowKit
set_option maxRecDepth 100000 in
theorem numb_any (x n : Int) (hn : 1 ≤ n) (hn2 : n ≤ 4611686018427387904) (hx : -9223372036854775808 ≤ x ∧ x ≤ 9223372036854775807) (w : World) :
    Calls Tryd.prog 9 #[.int .i64 x, .int .i64 n] w fun e w' => e = .returned (.int .i64 (numb x n)) ∧ w = w' := by
  have hb := tmod_bd x n hn
  obtain ⟨hb1, hb2⟩ := hb
  have hnz : (n == 0) = false := by rw [beq_eq_false_iff_ne]; omega
  have hnz' : ¬ n = 0 := by omega
  obtain ⟨hx1, hx2⟩ := hx
  obtain ⟨m, hm⟩ : ∃ m, x.tmod n = m := ⟨_, rfl⟩
  have hq : numb x n = if m < 0 then m + n else m := by unfold numb; rw [hm]
  rw [hm] at hb1 hb2
  have HQ := Lib.hid hq
  clear hq
  by_cases h : m < 0
  · go_enter Tryd.func9, Tryd.ntmps9
    go_wp2
    go_ret
    exact ⟨by rw [HQ.out, if_pos h]; rfl, rfl⟩
  · go_enter Tryd.func9, Tryd.ntmps9
    go_wp2
    go_ret
    exact ⟨by rw [HQ.out, if_neg (by omega)]; rfl, rfl⟩
end Go.Proofs.YtlfpjfhpleociaaDoor.Sha

/-
  The statements' own SameHash tells whether two digests are the same; Number brings any number into its bound; nothing that was there turns. Conditions: digests of 32 bytes; a bound from 1 on.
-/
namespace Go.Proofs.YtlfpjfhpleociaaDoor.Sha
open Go Go.RowKit
theorem list_eq_of {x y : List UInt8} (hx : x.length = 32) (hy : y.length = 32) (h : ∀ j, j < 32 → x.getD j 0 = y.getD j 0) : x = y := by
  apply List.ext_getElem (by omega)
  intro i h1 h2
  have := h i (by omega)
  simpa [List.getD, List.getElem?_eq_getElem h1, List.getElem?_eq_getElem h2] using this
def SmInv (x y : List UInt8) (w : World) (i : Value) (wr : World) : Prop :=
  ∃ k : Nat, k ≤ 32 ∧ i = .int .i64 k ∧ (∀ j, j < k → x.getD j 0 = y.getD j 0) ∧ wr.heap[w.heap.size]? = some (.cells (x.map bV).toArray 24 (0, 0)) ∧ wr.heap[w.heap.size + 1]? = some (.cells (y.map bV).toArray 24 (0, 0)) ∧ Below w.heap.size w wr
def SmPost (b : Bool) (w : World) (e : Ending) (w' : World) : Prop := e = .returned (.bool b) ∧ Below w.heap.size w w'
set_option maxRecDepth 100000 in
theorem same_any (x y : List UInt8) (hx : x.length = 32) (hy : y.length = 32) (w : World) :
    Calls Tryd.prog 15 #[.agg (x.map bV).toArray, .agg (y.map bV).toArray] w (SmPost (decide (x = y)) w) := by
  have HX := Lib.hid hx
  have HY := Lib.hid hy
  clear hx hy
  go_enter Tryd.func15, Tryd.ntmps15
  go_wp2_with fail
  go_loopw [5] (fun i wr => SmInv x y w i wr) (fun i _ => 32 - (intOf i).toNat)
  case atStart => exact ⟨0, by omega, rfl, fun j hj => by omega, heap_alloc2_old _ _ _, heap_alloc2_new _ _ _, ((Below.refl _ _).alloc (Nat.le_refl _) _).alloc (by simp) _⟩
  case round =>
    obtain ⟨k, hk, rfl, he, h1, h2, hb⟩ := hrel
    have H1 := Lib.hid h1
    have H2 := Lib.hid h2
    have HE := Lib.hid he
    have HB := Lib.hid hb
    by_cases hlt : k < 32
    · obtain ⟨a, ha⟩ : ∃ a, a = x.getD k 0 := ⟨_, rfl⟩
      obtain ⟨b, hb2⟩ : ∃ b, b = y.getD k 0 := ⟨_, rfl⟩
      have c1 : wr.cell? ⟨w.heap.size, k, none⟩ = some (.int .u8 (bv a)) := by rw [cell_of_row _ _ _ _ _ _ h1, bV_get _ _ (by rw [HX.out]; exact hlt), ha]
      have c2 : wr.cell? ⟨w.heap.size + 1, k, none⟩ = some (.int .u8 (bv b)) := by rw [cell_of_row _ _ _ _ _ _ h2, bV_get _ _ (by rw [HY.out]; exact hlt), hb2]
      have p0 : 0 ≤ (k : Int) := by omega
      have q0 : (k : Int) < 32 := by omega
      have HA := Lib.hid ha
      have HB2 := Lib.hid hb2
      clear h1 h2 he hb ha hb2
      by_cases hab : a = b
      · have ht : (bv a == bv b) = true := by rw [bv_beq, decide_eq_true hab]
        have ht' : (bv a != bv b) = false := by simp [bne, ht]
        have HAB := Lib.hid hab
        clear hab
        go_wp2_with fail
        go_quiet (fail)
        go_wp2_with fail
        go_roundw
        case rel =>
          refine ⟨k + 1, by omega, by go_num, fun j hj => ?_, H1.out, H2.out, below_drewN HB.out _⟩
          by_cases hj2 : j < k
          · exact HE.out j hj2
          · obtain rfl : j = k := by omega
            rw [← HA.out, ← HB2.out, HAB.out]
        case measure => simp [intOf]; omega
      · have ht : (bv a == bv b) = false := by rw [bv_beq, decide_eq_false hab]
        have ht' : (bv a != bv b) = true := by simp [bne, ht]
        have HAB := Lib.hid hab
        clear hab
        go_wp2_with fail
        go_quiet (fail)
        go_wp2_with fail
        go_ret
        have hne : x ≠ y := fun e => HAB.out (by rw [HA.out, HB2.out, e])
        exact ⟨by rw [decide_eq_false hne]; rfl, below_drewN HB.out _⟩
    · have hge : ¬ (k : Int) < 32 := by omega
      have hxy : x = y := list_eq_of HX.out HY.out (fun j hj => he j (by omega))
      have HXY := Lib.hid hxy
      clear h1 h2 he hb hxy
      go_wp2_with fail
      go_ret
      exact ⟨by rw [decide_eq_true HXY.out]; rfl, HB.out⟩
end Go.Proofs.YtlfpjfhpleociaaDoor.Sha

/-
  The statements' own SamePoint tells whether two places are one. Nothing that was there turns. Condition: digests of 32 bytes.
-/
namespace Go.Proofs.YtlfpjfhpleociaaDoor.Sha
open Go Go.RowKit
theorem same_b (x y : List UInt8) (hx : x.length = 32) (hy : y.length = 32) (b : Bool) (hb : b = decide (x = y)) (w : World) :
    Calls Tryd.prog 15 #[.agg (x.map bV).toArray, .agg (y.map bV).toArray] w fun e w' => e = .returned (.bool b) ∧ Below w.heap.size w w' := by
  subst hb
  exact same_any x y hx hy w
end Go.Proofs.YtlfpjfhpleociaaDoor.Sha

/-
  The statements' own SameBytes tells whether two texts are the same; nothing that was there turns. Condition: the bytes lie where the slices say.
-/
namespace Go.Proofs.YtlfpjfhpleociaaDoor.Sha
open Go Go.RowKit
theorem bytes_eq_of {x y : List UInt8} (hl : x.length = y.length) (h : ∀ j, j < x.length → x.getD j 0 = y.getD j 0) : x = y := by
  apply List.ext_getElem hl
  intro i h1 h2
  have := h i h1
  simpa [List.getD, List.getElem?_eq_getElem h1, List.getElem?_eq_getElem h2] using this
def SbInv (x y : List UInt8) (n : Nat) (w : World) (i : Value) (wr : World) : Prop :=
  ∃ k : Nat, k ≤ n ∧ i = .int .i64 k ∧ (∀ j, j < k → x.getD j 0 = y.getD j 0) ∧ Below w.heap.size w wr
def BoolPost (b : Bool) (w : World) (e : Ending) (w' : World) : Prop := e = .returned (.bool b) ∧ Below w.heap.size w w'
set_option maxRecDepth 100000 in
theorem same_bytes (x y : List UInt8) (s1 s2 : Option Addr) (n m c1 c2 : Nat) (w : World) (h1 : SrcB w (.slice s1 n c1) x) (h2 : SrcB w (.slice s2 m c2) y) (hn : n ≤ 70368744177680) :
    Calls Tryd.prog 14 #[.slice s1 n c1, .slice s2 m c2] w (BoolPost (decide (x = y)) w) := by
  have hx := h1.le.1
  have hy := h2.le.1
  by_cases hnm : n = m
  · subst hnm
    by_cases h0 : n = 0
    · subst h0
      obtain rfl : x = [] := List.eq_nil_of_length_eq_zero hx.symm
      obtain rfl : y = [] := List.eq_nil_of_length_eq_zero hy.symm
      clear h1 h2 hx hy
      go_enter Tryd.func14, Tryd.ntmps14
      go_wp2_with fail
      refine wp_loop_rounds 1 ?_
      rw [rounds_succ]
      go_wp2_with fail
      go_ret
      exact ⟨rfl, Below.refl _ _⟩
    · rcases h1 with ⟨_, _, hv, rfl⟩ | ⟨hx0, b1, o1, k1, hv, _, hc1⟩
      · cases hv; exact absurd rfl h0
      cases hv
      rcases h2 with ⟨_, _, hv, rfl⟩ | ⟨hy0, b2, o2, k2, hv, _, hc2⟩
      · exact absurd hy h0
      have hb1 := SrcB.block hx0 hc1
      have hb2 := SrcB.block hy0 hc2
      obtain ⟨n, hnx⟩ : ∃ n, n = x.length := ⟨_, rfl⟩
      rw [← hnx] at hn hy hc1 hx0 h0 ⊢
      have hv2 : s2 = some ⟨b2, o2, none⟩ := by simp at hv; exact hv.1
      have hv3 : c2 = k2 := by simp at hv; exact hv.2.2
      subst hv2
      subst hv3
      clear hv
      rw [← hy] at hc2 hy0
      have HX := Lib.hid hnx
      have HY := Lib.hid hy
      have HC1 := Lib.hid hc1
      have HC2 := Lib.hid hc2
      clear hnx hy hc1 hc2 hx
      go_enter Tryd.func14, Tryd.ntmps14
      go_wp2_with fail
      go_loopw [5] (fun i wr => SbInv x y n w i wr) (fun i _ => n - (intOf i).toNat)
      case atStart => exact ⟨0, by omega, rfl, fun j hj => by omega, Below.refl _ _⟩
      case round =>
        obtain ⟨k, hk, rfl, he, hb⟩ := hrel
        have HE := Lib.hid he
        have HB := Lib.hid hb
        clear he hb
        by_cases hlt : k < n
        · obtain ⟨a, ha⟩ : ∃ a, a = x.getD k 0 := ⟨_, rfl⟩
          obtain ⟨b, hb⟩ : ∃ b, b = y.getD k 0 := ⟨_, rfl⟩
          have t1 : wr.cell? ⟨b1, o1 + k, none⟩ = some (.int .u8 (bv a)) := by rw [HB.out.cell (p := ⟨b1, o1 + k, none⟩) hb1, ha]; exact HC1.out k hlt
          have t2 : wr.cell? ⟨b2, o2 + k, none⟩ = some (.int .u8 (bv b)) := by rw [HB.out.cell (p := ⟨b2, o2 + k, none⟩) hb2, hb]; exact HC2.out k hlt
          have p0 : 0 ≤ (k : Int) := by omega
          have q0 : (k : Int) < n := by omega
          have HA := Lib.hid ha
          have HB2 := Lib.hid hb
          clear ha hb
          by_cases hab : a = b
          · have ht : (bv a == bv b) = true := by rw [bv_beq, decide_eq_true hab]
            have HAB := Lib.hid hab
            clear hab
            go_wp2_with fail
            go_quiet (fail)
            go_wp2_with fail
            go_roundw
            case rel =>
              refine ⟨k + 1, by omega, by go_num, fun j hj => ?_, below_drewN HB.out _⟩
              by_cases hj2 : j < k
              · exact HE.out j hj2
              · obtain rfl : j = k := by omega
                rw [← HA.out, ← HB2.out, HAB.out]
            case measure => simp [intOf]; omega
          · have ht : (bv a == bv b) = false := by rw [bv_beq, decide_eq_false hab]
            have HAB := Lib.hid hab
            clear hab
            go_wp2_with fail
            go_quiet (fail)
            go_wp2_with fail
            go_ret
            have hne : x ≠ y := fun e => HAB.out (by rw [HA.out, HB2.out, e])
            exact ⟨by rw [decide_eq_false hne]; rfl, below_drewN HB.out _⟩
        · have hge : ¬ (k : Int) < n := by omega
          have hxy : x = y := bytes_eq_of (by rw [← HX.out, ← HY.out]) (fun j hj => HE.out j (by rw [← HX.out] at hj; omega))
          have HXY := Lib.hid hxy
          clear hxy
          go_wp2_with fail
          go_ret
          exact ⟨by rw [decide_eq_true HXY.out]; rfl, HB.out⟩
  · have hne : x ≠ y := fun e => hnm (by rw [hx, hy, e])
    have ht : ((n : Int) == (m : Int)) = false := by rw [beq_eq_false_iff_ne]; omega
    have ht' : ((n : Int) != (m : Int)) = true := by simp [bne, ht]
    have HNE := Lib.hid hne
    clear hne hx hy h1 h2 hnm
    go_enter Tryd.func14, Tryd.ntmps14
    go_wp2_with fail
    go_ret
    exact ⟨by rw [decide_eq_false HNE.out]; rfl, Below.refl _ _⟩
theorem same_bytes_v (x y : List UInt8) (v1 v2 : Value) (b : Bool) (w : World) (h1 : SrcB w v1 x) (h2 : SrcB w v2 y) (hb : b = decide (x = y)) (hn : x.length ≤ 70368744177680) :
    Calls Tryd.prog 14 #[v1, v2] w fun e w' => e = .returned (.bool b) ∧ Below w.heap.size w w' := by
  obtain ⟨s1, c1, rfl⟩ := h1.shape
  obtain ⟨s2, c2, rfl⟩ := h2.shape
  rw [hb]
  exact same_bytes x y s1 s2 _ _ c1 c2 w h1 h2 hn
end Go.Proofs.YtlfpjfhpleociaaDoor.Sha

/-
  The statements' own SameIn, SameOut tell whether two inputs, two outputs are the same. Nothing that was there turns. Conditions: digests of 32 bytes, keys that lie in memory, fewer than 2^46 bytes.
-/
namespace Go.Proofs.YtlfpjfhpleociaaDoor.Sha
open Go Go.RowKit
theorem range_of_box {w : World} {g : Nat} {cs : List Value} {T : TypeId} {fr : Nat × Nat} (h : w.heap[g]? = some (.cells cs.toArray T fr)) : w.rangeAt g 0 cs := fun j v hj => by
  rw [Nat.zero_add, cell_of_row _ _ _ _ _ _ h, List.getElem?_toArray]
  exact hj
end Go.Proofs.YtlfpjfhpleociaaDoor.Sha
