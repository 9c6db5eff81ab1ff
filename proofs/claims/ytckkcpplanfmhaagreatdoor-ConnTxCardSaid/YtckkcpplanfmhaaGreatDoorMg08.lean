/-
  Texts of this proof joined into one file: HdVal, RefTree, RefTree2, RefPasts, RefNeed, SpLock, RefSmall. What each holds, and under which conditions, its own first sentence tells.
-/
import Derived.Lib.OwnKind
import Derived.Test.YtckkcpplanfmhaaGreatDoorMg07
import Derived.Test.YtckkcpplanfmhaaGreatDoorMg03
import Derived.Test.YtckkcpplanfmhaaGreatDoorMg05
import Derived.Test.YtckkcpplanfmhaaGreatDoorMg06
import Derived.Test.YtckkcpplanfmhaaGreatDoorMg04
import Derived.Test.YtckkcpplanfmhaaGreatDoorMg02
import Derived.Test.YtckkcpplanfmhaaGreatDoorMg01
/-
  A block's header as the model has it: 68 cells; where its parts lie. Conditions: digests of 32 bytes.
-/
namespace Go.Proofs.YtckkcpplanfmhaaGreatDoor.Sha
open Go Go.RowKit
/-- A header's cells. -/
def hdL (h : THd) : List Value := nV h.ver :: (h.prev.map bV ++ (h.root.map bV ++ [nV h.time, nV h.work, nV h.nonce]))
theorem hdL_length {h : THd} (hh : HdOk h) : (hdL h).length = 68 := by simp [hdL, hh.2.1, hh.2.2.1]
theorem hdL_one' (h : THd) : ∀ v ∈ hdL h, v.oneCell' = true := by
  intro v hv
  rcases List.mem_cons.1 hv with rfl | h1
  · rfl
  rcases List.mem_append.1 h1 with h1 | h1
  · exact bV_one' _ v h1
  rcases List.mem_append.1 h1 with h1 | h1
  · exact bV_one' _ v h1
  · simp only [List.mem_cons, List.not_mem_nil, or_false] at h1
    rcases h1 with rfl | rfl | rfl <;> rfl
/-- The parts' cells. -/
theorem hdL_at {h : THd} (hh : HdOk h) : (hdL h)[0]? = some (nV h.ver) ∧ (hdL h)[65]? = some (nV h.time) ∧ (hdL h)[66]? = some (nV h.work) ∧ (hdL h)[67]? = some (nV h.nonce) := by
  have h1 : (h.prev.map bV).length = 32 := by simp [hh.2.1]
  have h2 : (h.root.map bV).length = 32 := by simp [hh.2.2.1]
  have e : hdL h = [nV h.ver] ++ h.prev.map bV ++ h.root.map bV ++ [nV h.time, nV h.work, nV h.nonce] := by simp [hdL]
  refine ⟨rfl, ?_, ?_, ?_⟩ <;> (rw [e, List.getElem?_append_right (by simp only [List.length_append, h1, h2, List.length_cons, List.length_nil]; omega)]; simp only [List.length_append, h1, h2, List.length_cons, List.length_nil]; rfl)
theorem range_part {w : World} {b o : Nat} {xs ys zs : List Value} (h : w.rangeAt b o (xs ++ (ys ++ zs))) : w.rangeAt b (o + xs.length) ys := fun j v hj => by
  rw [Nat.add_assoc]
  refine h (xs.length + j) v ?_
  rw [List.getElem?_append_right (by omega), Nat.add_sub_cancel_left, List.getElem?_append_left (List.getElem?_eq_some_iff.1 hj).1]
  exact hj
theorem hd_prev {w : World} {b o : Nat} {h : THd} (hg : w.rangeAt b o (hdL h)) : w.rangeAt b (o + 1) (h.prev.map bV) :=
  range_part (xs := [nV h.ver]) (ys := h.prev.map bV) hg
theorem hd_root {w : World} {b o : Nat} {h : THd} (hh : HdOk h) (hg : w.rangeAt b o (hdL h)) : w.rangeAt b (o + 33) (h.root.map bV) := by
  have e : hdL h = (nV h.ver :: h.prev.map bV) ++ (h.root.map bV ++ [nV h.time, nV h.work, nV h.nonce]) := by simp [hdL]
  rw [e] at hg
  have h := range_part hg
  simpa [hh.2.1] using h
/-- What a box with a header in it holds. -/
structure HdBox (w : World) (g : Nat) (h : THd) : Prop where
  row : w.heap[g]? = some (.cells (hdL h).toArray 68 (0, 0))
theorem HdBox.below {w w' : World} {g : Nat} {h : THd} (k : HdBox w g h) (hb : Below w.heap.size w w') : HdBox w' g h := ⟨row_below k.row hb⟩
theorem HdBox.lt {w : World} {g : Nat} {h : THd} (k : HdBox w g h) : g < w.heap.size := (Array.getElem?_eq_some_iff.1 k.row).1
theorem HdBox.cells {w : World} {g : Nat} {h : THd} (k : HdBox w g h) (hh : HdOk h) : w.cell? ⟨g, 0, none⟩ = some (.int .u32 (h.ver : Int)) ∧ w.cell? ⟨g, 65, none⟩ = some (.int .u32 (h.time : Int)) ∧ w.cell? ⟨g, 66, none⟩ = some (.int .u32 (h.work : Int)) ∧ w.cell? ⟨g, 67, none⟩ = some (.int .u32 (h.nonce : Int)) := by
  obtain ⟨h1, h2, h3, h4⟩ := hdL_at hh
  refine ⟨?_, ?_, ?_, ?_⟩ <;> (rw [cell_of_row _ _ _ _ _ _ k.row, List.getElem?_toArray]; assumption)
theorem HdBox.prev {w : World} {g : Nat} {h : THd} (k : HdBox w g h) : w.rangeAt g 1 (h.prev.map bV) := by simpa using hd_prev (range_of_box k.row)
theorem HdBox.root {w : World} {g : Nat} {h : THd} (k : HdBox w g h) (hh : HdOk h) : w.rangeAt g 33 (h.root.map bV) := by simpa using hd_root hh (range_of_box k.row)
end Go.Proofs.YtckkcpplanfmhaaGreatDoor.Sha

/-
  The statements' own tree: a box with an own row of nodes; where a block is. Nothing that was there turns. Conditions: the tree lies where the pointer says, nodes as the model has them, at most 4096.
-/
namespace Go.Proofs.YtckkcpplanfmhaaGreatDoor.Sha
open Go Go.RowKit
/-- A node. -/
structure TNd where
  id : List UInt8
  h : THd
  parent : Int
  height : Int
  work : Nat
  bad : Bool
section
variable {w w' : World} {base a : Nat} {v : Value} {L : List TNd}
end
end Go.Proofs.YtckkcpplanfmhaaGreatDoor.Sha

/-
  The statements' own tree: the places from one down to the start; whether one is below another one. Nothing that was there turns. Conditions: the tree lies where the pointer says; each node's parent stands ahead of it, at most 4096.
-/
namespace Go.Proofs.YtckkcpplanfmhaaGreatDoor.Sha
open Go Go.RowKit
theorem info_int : (Tryz.prog.info? 3).map (fun i => (i.zero, i.size, i.bytes)) = some (some (.int .i64 0), 1, 8) := by kernel_rfl
end Go.Proofs.YtckkcpplanfmhaaGreatDoor.Sha

/-
  The statements' own tree: the past of each block of a branch. Nothing that was there turns. Conditions: the tree lies where the pointer says, parents stand ahead, at most 4096 blocks.
-/
namespace Go.Proofs.YtckkcpplanfmhaaGreatDoor.Sha
open Go Go.RowKit
def intC (x : Int) : List Value := [.int .i64 x]
theorem int_cell {w : World} {b o i : Nat} {x : Int} (h : w.rangeAt b (o + i * 1) (intC x)) : w.cell? ⟨b, o + i, none⟩ = some (.int .i64 x) := by
  have := h 0 _ rfl
  simpa using this
theorem ne_swap {a b : Option Nat} (h : a = none ∨ a ≠ b) : b = none ∨ b ≠ a := by
  cases b with
  | none => exact .inl rfl
  | some b =>
    right
    intro e
    rcases h with h | h
    · rw [h] at e; cases e
    · exact h e.symm
theorem rw_own_ne2 {w : World} {base base' k k' : Nat} {v v' : Value} {L L' : List (List Value)} (h : RwOwn k 3 base w v L) (h' : RwOwn k' 23 base' w v' L') (e : v.ownBlock = v'.ownBlock) : v.ownBlock = none ∧ v'.ownBlock = none := by
  cases hb : v.ownBlock with
  | none => exact ⟨rfl, by rw [← e, hb]⟩
  | some g =>
    obtain ⟨c, fz, hc⟩ := Lib.ownsRow_kind h.1 g hb
    obtain ⟨c', fz', hc'⟩ := Lib.ownsRow_kind h'.1 g (by rw [← e, hb])
    rw [hc] at hc'
    cases hc'
theorem ne_new {a b b' : Option Nat} {g : Nat} (h : a = none ∨ a ≠ b) (hb : b' = b ∨ b' = some g) (ha : ∀ q, a = some q → q < g) : a = none ∨ a ≠ b' := by
  rcases hb with rfl | rfl
  · exact h
  · cases a with
    | none => exact .inl rfl
    | some q =>
      right
      intro e
      have := ha q rfl
      have := Option.some.inj e
      omega
theorem own_diff {w : World} {base base' k k' : Nat} {v v' : Value} {L L' : List (List Value)} (h : RwOwn k 3 base w v L) (h' : RwOwn k' 23 base' w v' L') : v.ownBlock = none ∨ v.ownBlock ≠ v'.ownBlock := by
  by_cases e : v.ownBlock = v'.ownBlock
  · exact .inl (rw_own_ne2 h h' e).1
  · exact .inr e
end Go.Proofs.YtckkcpplanfmhaaGreatDoor.Sha

/-
  The statements' own: until when a transaction has to wait. Nothing that was there turns. Conditions: the transaction and the rows lie in memory, at most a million inputs; sums of heights go round as the statement's do.
-/
namespace Go.Proofs.YtckkcpplanfmhaaGreatDoor.Sha
open Go Go.RowKit
theorem bits_nat {a b : Nat} (ha : a ≤ 4294967295) (hb : b ≤ 4294967295) : bits .and .u32 (a : Int) (b : Int) = ((a &&& b : Nat) : Int) := by
  have h := wv_and (UInt32.ofNat a) (UInt32.ofNat b)
  have e1 : wv (UInt32.ofNat a) = (a : Int) := by unfold wv; rw [UInt32.toNat_ofNat']; omega
  have e2 : wv (UInt32.ofNat b) = (b : Int) := by unfold wv; rw [UInt32.toNat_ofNat']; omega
  rw [e1, e2] at h
  rw [h]
  unfold wv
  rw [UInt32.toNat_and, UInt32.toNat_ofNat', UInt32.toNat_ofNat', Nat.mod_eq_of_lt (by omega), Nat.mod_eq_of_lt (by omega)]
def lockB (s : Nat) : Bool := decide (s &&& 2147483648 ≠ 0)
def timeB (s : Nat) : Bool := decide (s &&& 4194304 ≠ 0)
def addH (h : Int) (n : Nat) : Int := IntKind.i64.wrap (IntKind.i64.wrap (h + (n : Int)) - 1)
def needStep (st : Int × Int) (e : Nat × Int × Nat) : Int × Int :=
  if lockB e.1 then st else if timeB e.1 then (st.1, max st.2 ((e.2.2 : Int) + 512 * ((e.1 &&& 65535 : Nat) : Int) - 1)) else (max st.1 (addH e.2.1 (e.1 &&& 65535)), st.2)
def needE (t : TTx) (hs : List Int) (ps : List Nat) : List (Nat × Int × Nat) := (t.ins.map (·.seq)).zip (hs.zip ps)
def needL (t : TTx) (hs : List Int) (ps : List Nat) : Int × Int := if t.ver < 2 then (-1, -1) else (needE t hs ps).foldl needStep (-1, -1)
theorem needE_get {t : TTx} {hs : List Int} {ps : List Nat} {i : Nat} {x : TIn} {h : Int} {p : Nat} (h1 : t.ins[i]? = some x) (h2 : hs[i]? = some h) (h3 : ps[i]? = some p) : (needE t hs ps)[i]? = some (x.seq, h, p) := by
  unfold needE
  rw [List.getElem?_zip_eq_some]
  exact ⟨by rw [List.getElem?_map, h1]; rfl, by rw [List.getElem?_zip_eq_some]; exact ⟨h2, h3⟩⟩
theorem need_succ {E : List (Nat × Int × Nat)} {i : Nat} {e : Nat × Int × Nat} (h : E[i]? = some e) : (E.take (i + 1)).foldl needStep (-1, -1) = needStep ((E.take i).foldl needStep (-1, -1)) e := by
  rw [List.take_succ_eq_append_getElem (List.getElem?_eq_some_iff.1 h).1, (List.getElem?_eq_some_iff.1 h).2, List.foldl_append]
  rfl
def NdI (E : List (Nat × Int × Nat)) (n : Nat) (w : World) (vh vp vi : Value) (wr : World) : Prop :=
  ∃ (i : Nat) (sh sp : Int), vh = .int .i64 sh ∧ vp = .int .i64 sp ∧ vi = .int .i64 (i : Int) ∧ i ≤ n ∧ (E.take i).foldl needStep (-1, -1) = (sh, sp) ∧ -9223372036854775808 ≤ sh ∧ sh ≤ 9223372036854775807 ∧ -1 ≤ sp ∧ sp ≤ 5000000000 ∧ Below w.heap.size w wr
theorem results_t3 {P : Program} {fn : Func} {u1 u2 u3 : Tmp} (h : fn.results = #[.tmp u1, .tmp u2, .tmp u3]) (tmps : Array Value) (w : World) : (results fn tmps).run P w = .ok (.tuple #[tmps.getD u1 undef, tmps.getD u2 undef, tmps.getD u3 undef]) w := by
  simp [results, h, Result.andThen]
theorem addH_bd (h : Int) (n : Nat) : -9223372036854775808 ≤ addH h n ∧ addH h n ≤ 9223372036854775807 := by
  unfold addH
  generalize IntKind.i64.wrap (h + (n : Int)) = q
  rw [IntKind.wrap_i64]
  omega
set_option maxHeartbeats 4000000 in
set_option maxRecDepth 100000 in
theorem rneed_any (w : World) (v vh vp : Value) (t : TTx) (hs : List Int) (ps : List Nat) (h : TxAt w v t) (hh : RwAt 1 w vh (hs.map intC)) (hp : RwAt 1 w vp (ps.map u32C)) (hl1 : hs.length = t.ins.length) (hl2 : ps.length = t.ins.length) (hm : t.ins.length ≤ 1000000) (hb : ∀ p ∈ ps, p ≤ 4294967295) :
    Calls Tryz.prog 79 #[v, vh, vp] w fun e w' => e = .returned (.tuple #[.int .i64 (needL t hs ps).1, .int .i64 (needL t hs ps).2, .bool true]) ∧ Below w.heap.size w w' := by
  obtain ⟨_, iv, ov, rfl, hin, hou⟩ := h
  have TONE : Hid ((txL t iv ov).toArray.all (·.oneCell') = true) := tx_one hin hou
  have LT : Hid ((txL t iv ov).toArray.size = 4) := rfl
  have CO : Hid (∀ (W : World) (g : Nat), W.heap[g]? = some (.cells (txL t iv ov).toArray 27 (0, 0)) → W.cell? ⟨g, 0, none⟩ = some (.int .u32 (t.ver : Int)) ∧ W.cell? ⟨g, 1, none⟩ = some iv) := fun W g hg => ⟨(tx_cells hg).1, (tx_cells hg).2.1⟩
  obtain ⟨si, ci, rfl, _, hgi⟩ := hin
  obtain ⟨sh, ch, rfl⟩ := hh.shape
  obtain ⟨sp, cp, rfl⟩ := hp.shape
  simp only [List.length_map] at hh hp ⊢
  rw [hl1] at hh ⊢
  rw [hl2] at hp ⊢
  obtain ⟨n, hn⟩ : ∃ n, n = t.ins.length := ⟨_, rfl⟩
  rw [← hn] at hl1 hl2 hh hp hm CO TONE LT hgi ⊢
  have N := Lib.hid hn
  have HI := Lib.hid hgi
  have HH := Lib.hid hh
  have HP := Lib.hid hp
  have L1 := Lib.hid hl1
  have L2 := Lib.hid hl2
  have HPB := Lib.hid hb
  obtain ⟨E, hE⟩ : ∃ E, E = needE t hs ps := ⟨_, rfl⟩
  have EL : Hid (E.length = n) := by show _ = _; rw [hE]; unfold needE; simp; omega
  have EG : Hid (∀ (i : Nat) (x : TIn) (h : Int) (p : Nat), t.ins[i]? = some x → hs[i]? = some h → ps[i]? = some p → E[i]? = some (x.seq, h, p)) := fun i x h p h1 h2 h3 => by rw [hE]; exact needE_get h1 h2 h3
  have NE : Hid (needL t hs ps = if t.ver < 2 then (-1, -1) else E.foldl needStep (-1, -1)) := by rw [hE]; rfl
  obtain ⟨R, hR⟩ : ∃ R, R = needL t hs ps := ⟨_, rfl⟩
  rw [← hR] at NE ⊢
  obtain ⟨vr, hvr⟩ : ∃ vr, vr = t.ver := ⟨_, rfl⟩
  rw [← hvr] at NE CO
  obtain ⟨ct, hct⟩ : ∃ ct, ct = txL t (.slice si n ci) ov := ⟨_, rfl⟩
  rw [← hct] at TONE LT CO ⊢
  clear hn hgi hh hp hl1 hl2 hE hR hvr hct hou hb
  go_enter Tryz.func79, Tryz.ntmps79
  go_upto_region 1 with fail
  have f3 := heap_alloc_new w (.cells ct.toArray 27 (0, 0))
  have b1 := (Below.refl w.heap.size w).alloc (Nat.le_refl _) (.cells ct.toArray 27 (0, 0))
  generalize hw1 : World.alloc _ _ = w1
  have e1 : w.alloc (.cells ct.toArray 27 (0, 0)) = w1 := hw1
  rw [e1] at f3 b1
  obtain ⟨g3, hg3⟩ : ∃ g3, g3 = w.heap.size := ⟨_, rfl⟩
  rw [← hg3] at f3 ⊢
  have F3 := Lib.hid f3
  have B1 := Lib.hid b1
  have c0 := (CO.out _ _ F3.out).1
  have c1 := (CO.out _ _ F3.out).2
  clear f3 b1 hw1 e1 hg3
  by_cases hv2 : vr < 2
  · have v2 : ¬ 2 ≤ (vr : Int) := by omega
    have RE : Hid (R = (-1, -1)) := by show _ = _; rw [NE.out, if_pos hv2]
    by_cases hn0 : n = 0
    · have t0 : ¬ (0 : Int) < (n : Int) := by omega
      clear hv2 hn0
      go_wp2_with fail
      go_loopw [9, 10, 11] (fun vh vp vi wr => vh = .int .i64 (-1) ∧ vp = .int .i64 (-1) ∧ vi = .int .i64 0 ∧ wr = w1) (fun _ _ _ _ => 0)
      case atStart => exact ⟨rfl, rfl, rfl, rfl⟩
      case round =>
        obtain ⟨rfl, rfl, rfl, rfl⟩ := hrel
        go_wp2_with fail
        refine bodyPost_ret (results_t3 rfl _ _) rfl ?_
        exact ⟨by rw [RE.out]; rfl, B1.out⟩
    · have t0 : (0 : Int) < (n : Int) := by omega
      clear hv2 hn0
      go_wp2_with fail
      go_loopw [9, 10, 11] (fun vh vp vi wr => vh = .int .i64 (-1) ∧ vp = .int .i64 (-1) ∧ vi = .int .i64 0 ∧ wr = w1) (fun _ _ _ _ => 0)
      case atStart => exact ⟨rfl, rfl, rfl, rfl⟩
      case round =>
        obtain ⟨rfl, rfl, rfl, rfl⟩ := hrel
        go_wp2_with fail
        refine bodyPost_ret (results_t3 rfl _ _) rfl ?_
        exact ⟨by rw [RE.out]; rfl, B1.out⟩
  · have v2 : 2 ≤ (vr : Int) := by omega
    have RE : Hid (R = E.foldl needStep (-1, -1)) := by show _ = _; rw [NE.out, if_neg hv2]
    clear hv2
    go_wp2_with fail
    clear c0 c1
    go_loopw [9, 10, 11] (fun vh vp vi wr => NdI E n w1 vh vp vi wr) (fun _ _ vi _ => n - (intOf vi).toNat)
    case atStart => exact ⟨0, -1, -1, rfl, rfl, rfl, Nat.zero_le _, rfl, by omega, by omega, by omega, by omega, Below.refl _ _⟩
    case round =>
      obtain ⟨i, ah, ap, rfl, rfl, rfl, hi, hf, b1, b2, b3, b4, hb⟩ := hrel
      have HF := Lib.hid hf
      have B := Lib.hid hb
      have BB := Lib.hid (B1.out.trans (hb.mono B1.out.size))
      have F3R := row_below F3.out hb
      have c0 := (CO.out _ _ F3R).1
      have c1 := (CO.out _ _ F3R).2
      clear hf hb F3R
      by_cases hlt : i < n
      · obtain ⟨x, hx⟩ : ∃ x, t.ins[i]? = some x := ⟨_, List.getElem?_eq_getElem (by rw [← N.out]; exact hlt)⟩
        obtain ⟨hv, hhv⟩ : ∃ hv, hs[i]? = some hv := ⟨_, List.getElem?_eq_getElem (by rw [L1.out]; exact hlt)⟩
        obtain ⟨pv, hpv⟩ : ∃ pv, ps[i]? = some pv := ⟨_, List.getElem?_eq_getElem (by rw [L2.out]; exact hlt)⟩
        obtain ⟨bi, oi, rfl, hg⟩ := HI.out (by omega)
        have hin := (hg i x hx).below BB.out
        obtain ⟨ox, kv, _, hr⟩ := hin
        have cs := in_seq ox.1 hr
        obtain ⟨bh, oh, rfl, hgh⟩ := (HH.out.below BB.out).get (by omega)
        have ch1 := int_cell (hgh i (intC hv) (by rw [List.getElem?_map, hhv]; rfl))
        obtain ⟨bp, op, rfl, hgp⟩ := (HP.out.below BB.out).get (by omega)
        have cp1 := u32_cell (hgp i (u32C pv) (by rw [List.getElem?_map, hpv]; rfl))
        have pb := HPB.out pv (List.mem_of_getElem? hpv)
        have ES := Lib.hid (need_succ (EG.out i x hv pv hx hhv hpv))
        have sb : x.seq ≤ 4294967295 := ox.2.2
        obtain ⟨sq, hsq⟩ : ∃ sq, sq = x.seq := ⟨_, rfl⟩
        rw [← hsq] at cs sb ES
        have bm : bits .and .u32 (sq : Int) 65535 = ((sq &&& 65535 : Nat) : Int) := bits_nat (b := 65535) sb (by omega)
        have bl : bits .and .u32 (sq : Int) 2147483648 = ((sq &&& 2147483648 : Nat) : Int) := bits_nat (b := 2147483648) sb (by omega)
        have bt : bits .and .u32 (sq : Int) 4194304 = ((sq &&& 4194304 : Nat) : Int) := bits_nat (b := 4194304) sb (by omega)
        have nb : (sq &&& 65535) ≤ 65535 := Nat.and_le_right
        have ST : Hid ((E.take (i + 1)).foldl needStep (-1, -1) = needStep (ah, ap) (sq, hv, pv)) := by show _ = _; rw [ES.out, HF.out]
        have SD : Hid (needStep (ah, ap) (sq, hv, pv) = if lockB sq then (ah, ap) else if timeB sq then (ah, max ap ((pv : Int) + 512 * ((sq &&& 65535 : Nat) : Int) - 1)) else (max ah (addH hv (sq &&& 65535)), ap)) := rfl
        obtain ⟨nn, hnn⟩ : ∃ nn, nn = sq &&& 65535 := ⟨_, rfl⟩
        rw [← hnn] at bm nb SD
        have LB : Hid (lockB sq = decide (sq &&& 2147483648 ≠ 0)) := rfl
        have TB : Hid (timeB sq = decide (sq &&& 4194304 ≠ 0)) := rfl
        obtain ⟨lk, hlk⟩ : ∃ lk, lk = sq &&& 2147483648 := ⟨_, rfl⟩
        rw [← hlk] at bl LB
        obtain ⟨tk, htk⟩ : ∃ tk, tk = sq &&& 4194304 := ⟨_, rfl⟩
        rw [← htk] at bt TB
        have i0 : 0 ≤ (i : Int) := by omega
        have i1 : (i : Int) < (n : Int) := by omega
        clear hx hhv hpv hg hr ox hgh hgp hsq hnn hlk htk ES
        by_cases hl0 : lk = 0
        · have l0 : ((lk : Int) != 0) = false := by simp; omega
          have LF : Hid (lockB sq = false) := by show _ = _; rw [LB.out]; simpa using hl0
          clear hl0
          by_cases ht0 : tk = 0
          · have t0 : ((tk : Int) != 0) = false := by simp; omega
            have TF : Hid (timeB sq = false) := by show _ = _; rw [TB.out]; simpa using ht0
            clear ht0
            obtain ⟨a1, ha1⟩ : ∃ a1, a1 = IntKind.i64.wrap (hv + (nn : Int)) := ⟨_, rfl⟩
            obtain ⟨a2, ha2⟩ : ∃ a2, a2 = IntKind.i64.wrap (a1 - 1) := ⟨_, rfl⟩
            have AE : Hid (addH hv nn = a2) := by show _ = _; unfold addH; rw [← ha1, ha2]
            have AB := addH_bd hv nn
            rw [AE.out] at AB
            have w1' : IntKind.i64.wrap (hv + (nn : Int)) = a1 := ha1.symm
            have w2' : IntKind.i64.wrap (a1 - 1) = a2 := ha2.symm
            have w3' : wrap64 (hv + (nn : Int)) = a1 := by rw [← IntWalk.i64_left]; exact w1'
            have w4' : wrap64 (a1 - 1) = a2 := by rw [← IntWalk.i64_left]; exact w2'
            clear ha1 ha2
            by_cases hc : ah < a2
            · have c2 : ¬ a2 < ah := by omega
              have SV : Hid ((E.take (i + 1)).foldl needStep (-1, -1) = (a2, ap)) := by show _ = _; rw [ST.out, SD.out, LF.out, TF.out, AE.out, if_neg (by decide), if_neg (by decide), Int.max_eq_right (by omega)]
              go_wp2_with fail
              go_roundw
              case rel => exact ⟨i + 1, a2, ap, congrArg (Value.int .i64) (by omega), rfl, by go_num, by omega, SV.out, AB.1, AB.2, b3, b4, B.out⟩
              case measure => simp [intOf] <;> omega
            · have SV : Hid ((E.take (i + 1)).foldl needStep (-1, -1) = (ah, ap)) := by show _ = _; rw [ST.out, SD.out, LF.out, TF.out, AE.out, if_neg (by decide), if_neg (by decide), Int.max_eq_left (by omega)]
              have c2 : a2 ≤ ah := by omega
              go_wp2_with fail
              go_roundw
              case rel => exact ⟨i + 1, ah, ap, congrArg (Value.int .i64) (by omega), rfl, by go_num, by omega, SV.out, b1, b2, b3, b4, B.out⟩
              case measure => simp [intOf] <;> omega
          · have t0 : ((tk : Int) != 0) = true := by simp; omega
            have TF : Hid (timeB sq = true) := by show _ = _; rw [TB.out]; simpa using ht0
            clear ht0
            have m1 : IntKind.i64.wrap (512 * (nn : Int)) = 512 * (nn : Int) := IntWalk.i64_in _ (by omega)
            have m2 : IntKind.i64.wrap ((pv : Int) + 512 * (nn : Int)) = (pv : Int) + 512 * (nn : Int) := IntWalk.i64_in _ (by omega)
            have m3 : IntKind.i64.wrap ((pv : Int) + 512 * (nn : Int) - 1) = (pv : Int) + 512 * (nn : Int) - 1 := IntWalk.i64_in _ (by omega)
            by_cases hc : ap < (pv : Int) + 512 * (nn : Int) - 1
            · have c2 : ¬ (pv : Int) + 512 * (nn : Int) - 1 < ap := by omega
              have SV : Hid ((E.take (i + 1)).foldl needStep (-1, -1) = (ah, (pv : Int) + 512 * (nn : Int) - 1)) := by show _ = _; rw [ST.out, SD.out, LF.out, TF.out, if_neg (by decide), if_pos rfl, Int.max_eq_right (by omega)]
              go_wp2_with fail
              go_roundw
              case rel => exact ⟨i + 1, ah, (pv : Int) + 512 * (nn : Int) - 1, rfl, congrArg (Value.int .i64) (by omega), by go_num, by omega, SV.out, b1, b2, by omega, by omega, B.out⟩
              case measure => simp [intOf] <;> omega
            · have SV : Hid ((E.take (i + 1)).foldl needStep (-1, -1) = (ah, ap)) := by show _ = _; rw [ST.out, SD.out, LF.out, TF.out, if_neg (by decide), if_pos rfl, Int.max_eq_left (by omega)]
              have c2 : (pv : Int) + 512 * (nn : Int) - 1 ≤ ap := by omega
              go_wp2_with fail
              go_roundw
              case rel => exact ⟨i + 1, ah, ap, rfl, congrArg (Value.int .i64) (by omega), by go_num, by omega, SV.out, b1, b2, b3, b4, B.out⟩
              case measure => simp [intOf] <;> omega
        · have l0 : ((lk : Int) != 0) = true := by simp; omega
          have LF : Hid (lockB sq = true) := by show _ = _; rw [LB.out]; simpa using hl0
          clear hl0
          have SV : Hid ((E.take (i + 1)).foldl needStep (-1, -1) = (ah, ap)) := by show _ = _; rw [ST.out, SD.out, LF.out, if_pos rfl]
          go_wp2_with fail
          go_roundw
          case rel => exact ⟨i + 1, ah, ap, rfl, rfl, by go_num, by omega, SV.out, b1, b2, b3, b4, B.out⟩
          case measure => simp [intOf] <;> omega
      · have hin : i = n := by omega
        have RV : Hid (R = (ah, ap)) := by
          have h := HF.out
          rw [hin, List.take_of_length_le (by rw [EL.out]; exact Nat.le_refl _)] at h
          rw [RE.out]
          exact h
        have i1 : ¬ (i : Int) < (n : Int) := by omega
        clear hin hlt HF
        go_wp2_with fail
        refine bodyPost_ret (results_t3 rfl _ _) rfl ?_
        exact ⟨by rw [RV.out]; rfl, BB.out⟩
end Go.Proofs.YtckkcpplanfmhaaGreatDoor.Sha

/-
  spend.Lock answers a key's digest; spend.Opens tells whether a key of at most 80 bytes has that lock. Nothing that was there turns. Conditions: the bytes lie where the slice says, the table is there, fewer than 2^59 bytes.
-/
namespace Go.Proofs.YtckkcpplanfmhaaGreatDoor.Sha
open Go Go.RowKit
set_option maxRecDepth 100000 in
theorem lock_any (bs : List UInt8) (v : Value) (w : World) (hk : KTab w) (hsrc : SrcB w v bs) (hlen : bs.length ≤ 576460752303423487) :
    Calls Tryz.prog 102 #[v] w fun e w' => e = .returned (.agg ((sha bs).map bV).toArray) ∧ Below w.heap.size w w' := by
  have hl : ((sha bs).map bV).toArray.size = 32 := by simp [sha_length]
  have HL := Lib.hid hl
  have HK := Lib.hid hk
  have HS := Lib.hid hsrc
  clear hk hsrc hl
  go_enter Tryz.func102, Tryz.ntmps102
  go_wp2_with fail
  have b1 : Below w.heap.size w (w.alloc (.cells (List.replicate 32 (bV 0)).toArray 44)) := (Below.refl _ _).alloc (Nat.le_refl _) _
  have f1 : (w.alloc (.cells (List.replicate 32 (bV 0)).toArray 44)).heap[w.heap.size]? = some (.cells (List.replicate 32 (bV 0)).toArray 44 (0, 0)) := heap_alloc_new _ _
  have z1 : w.heap.size < (w.alloc (.cells (List.replicate 32 (bV 0)).toArray 44)).heap.size := by simp
  generalize hw1 : World.alloc _ _ = w1
  have e1 : w.alloc (.cells (List.replicate 32 (bV 0)).toArray 44) = w1 := hw1
  rw [e1] at b1 f1 z1
  clear hw1 e1
  refine (sha_any bs v w1 (HK.out.below b1) (HS.out.below b1) hlen).mono ?_
  rintro e w2 ⟨rfl, hb2⟩
  have f2 : w2.heap[w.heap.size]? = some (.cells (List.replicate 32 (bV 0)).toArray 44 (0, 0)) := row_below f1 hb2
  have F2 := Lib.hid f2
  have B2 := Lib.hid (b1.trans (hb2.mono b1.size))
  clear f2 hb2 f1 b1 z1
  go_wp2_with ((with_reducible show wpList _ _ _ _ _ _); refine wpList_store_row rfl 44 (.tmp 2) (.tmp 4) rfl w.heap.size ((sha bs).map bV).toArray rfl rfl 44 _ F2.out (by rw [HL.out]; kernel_rfl) (by rw [HL.out]; rfl) (bV_one _) ?_; go_frame)
  refine bodyPost_ret (results_cell_row rfl _ _ w.heap.size 44 ((sha bs).map bV).toArray (0, 0) (.array 32 5) rfl (setRow_heap _ _ _ _ _ _ F2.out) Tryz.underlying44 rfl (by rw [HL.out]; kernel_rfl)) rfl ⟨rfl, below_setRow B2.out (Nat.le_refl _) _⟩
/-- Opens. -/
def opensL (bs l : List UInt8) : Bool := decide (bs.length ≤ 80) && decide (sha bs = l)
set_option maxRecDepth 100000 in
theorem opens_all (bs l : List UInt8) (v : Value) (w : World) (hk : KTab w) (hsrc : SrcB w v bs) (hl : l.length = 32) (b : Bool) (hb : b = opensL bs l) :
    Calls Tryz.prog 68 #[v, .agg (l.map bV).toArray] w fun e w' => e = .returned (.bool b) ∧ Below w.heap.size w w' := by
  obtain ⟨sp, cap, rfl⟩ := hsrc.shape
  have hs : (l.map bV).toArray.size = 32 := by simp [hl]
  have HLS := Lib.hid hs
  have HL := Lib.hid hl
  have HK := Lib.hid hk
  have HS := Lib.hid hsrc
  have HB := Lib.hid hb
  obtain ⟨n, hn⟩ : ∃ n, n = bs.length := ⟨_, rfl⟩
  have HN := Lib.hid hn
  rw [← hn] at HS ⊢
  clear hk hsrc hl hb hs
  go_enter Tryz.func68, Tryz.ntmps68
  go_upto_region 1 with fail
  have F := Lib.hid (heap_alloc_new w (.cells (l.map bV).toArray 44 (0, 0)))
  have B := Lib.hid ((Below.refl w.heap.size w).alloc (Nat.le_refl _) (.cells (l.map bV).toArray 44 (0, 0)))
  generalize hw1 : World.alloc _ _ = w1
  rw [hw1] at F B
  clear hw1
  refine wp_region_below (by kernel_rfl) (by kernel_rfl) w1 (Below.refl _ _) ?_
  by_cases h80 : n ≤ 80
  · have hd : decide ((n : Int) ≤ 80) = true := decide_eq_true (by omega)
    have H80 := Lib.hid h80
    have hlen : bs.length ≤ 576460752303423487 := by omega
    clear h80 hn
    go_big_quiet_step ((intro _; rfl))
    go_big_quiet_step ((intro _; rfl))
    go_big_quiet_step ((intro _; rfl))
    go_big_quiet_step ((intro _; rfl))
    go_big_quiet_step ((intro _; rfl))
    go_big_quiet_step ((intro hw'; exact cls hw' (lock_any bs _ _ ((HK.out.below B.out).below hw') ((HS.out.below B.out).below hw') hlen)))
    go_big_quiet_want
    refine quiet_load_row 44 (.tmp 3) rfl w.heap.size rfl 44 (l.map bV).toArray (0, 0) _ (fun w' hw' => row_below F.out hw') Tryz.underlying44 rfl (by rw [HLS.out]; kernel_rfl) ?_
    go_frame
    go_big_quiet_on
    go_big_quiet_want
    refine quiet_eql_hash (.tmp 10) (.tmp 11) _ rfl (sha bs) l (sha_length _) HL.out rfl rfl b (by rw [HB.out, opensL, ← HN.out, decide_eq_true H80.out, Bool.true_and]) ?_
    go_frame
    go_big_quiet_on
    repeat (go_big_quiet_step ((intro _; rfl)))
    refine wpQuiet_nil ?_
    intro w7 hw7
    have HW7 := Lib.hid (B.out.trans (hw7.mono B.out.size))
    clear hw7
    go_wp2_with fail
    go_ret
    exact ⟨rfl, HW7.out⟩
  · have hd : decide ((n : Int) ≤ 80) = false := decide_eq_false (by omega)
    have H80 := Lib.hid h80
    clear h80 hn
    repeat (go_big_quiet_step ((intro _; rfl)))
    refine wpQuiet_nil ?_
    intro w7 hw7
    have HW7 := Lib.hid (B.out.trans (hw7.mono B.out.size))
    clear hw7
    go_wp2_with fail
    go_ret
    exact ⟨by rw [HB.out, opensL, ← HN.out, decide_eq_false H80.out]; rfl, HW7.out⟩
end Go.Proofs.YtckkcpplanfmhaaGreatDoor.Sha

/-
  Small functions of the statements' own SHA-256: a word turned right, the table of the rounds' words, as the chapter gives them. No conditions.
-/
namespace Go.Proofs.YtckkcpplanfmhaaGreatDoor.Sha
open Go Go.RowKit
theorem right_fact (x : UInt32) (n : Nat) (h1 : 1 ≤ n) (h2 : n ≤ 31) : bits .or .u32 (wv x / 2 ^ n) (wv x * 2 ^ (32 - n) % 4294967296) = wv (rotr x n) := by
  rw [← IntKind.wrap_u32', wv_shl x _ (by omega), wv_shr x n (by omega), wv_or]
  rfl
set_option maxRecDepth 100000 in
theorem right_any (x : UInt32) (n : Nat) (k : Int) (hk : k = (n : Int)) (h1 : 1 ≤ n) (h2 : n ≤ 31) (w : World) :
    Calls Tryz.prog 52 #[.int .u32 (wv x), .int .u64 k] w fun e w' => e = .returned (.int .u32 (wv (rotr x n))) ∧ w = w' := by
  subst hk
  go_enter Tryz.func52, Tryz.ntmps52
  go_wp2
  go_ret
  exact ⟨ret_int (right_fact x n h1 h2), rfl⟩
theorem right_z (x : UInt32) (k : Int) (h1 : 1 ≤ k) (h2 : k ≤ 31) (w : World) :
    Calls Tryz.prog 52 #[.int .u32 (wv x), .int .u64 k] w fun e w' => e = .returned (.int .u32 (wv (rotr x k.toNat))) ∧ w = w' :=
  right_any x k.toNat k (by omega) (by omega) (by omega) w
theorem wv_sum3 (a b c : UInt32) : (wv a + wv b + wv c) % 4294967296 = wv (a + b + c) := by rw [← wv_sum, ← wv_sum]; omega
theorem wv_sum4 (a b c d : UInt32) : (wv a + wv b + wv c + wv d) % 4294967296 = wv (a + b + c + d) := by rw [← wv_sum, ← wv_sum3]; omega
theorem wv_not (x : UInt32) : bits .xor .u32 IntKind.u32.max (wv x) = wv (~~~x) := by
  rw [show IntKind.u32.max = wv 4294967295 from rfl, wv_xor, show (4294967295 : UInt32) = -1 from rfl, UInt32.neg_one_xor]
set_option maxRecDepth 100000 in
theorem k_any (w : World) : Calls Tryz.prog 51 #[] w fun e w' => e = .returned (.slice (some ⟨w.heap.size, 0, none⟩) 64 64) ∧ w'.heap[w.heap.size]? = some (.cells (kList.map wV).toArray 23 (0, 0)) ∧ Below w.heap.size w w' := by
  go_enter Tryz.func51, Tryz.ntmps51
  go_wp2
  go_ret
  exact ⟨rfl, by rw [heap_alloc_new]; rfl, (Below.refl _ _).alloc (Nat.le_refl _) _⟩
end Go.Proofs.YtckkcpplanfmhaaGreatDoor.Sha
