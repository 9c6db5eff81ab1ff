/-
  Texts of this proof joined into one file: RefBuf, Held, RefTx, TxSm, TxBox, ShaCopy, TxRow, TxRead2, TxTakeM, TxStore, ShaMath, ShaSig, ShaSpread, ShaMix. What each holds, and under which conditions, its own first sentence tells.
-/
import Derived.Maps.AppendAt
import Derived.Deep.RegionHeld3
import Derived.Great.BuildSlice
import Derived.IntWalk
import Derived.LoopN
import Derived.WalkKit
import Derived.Deep.Light
import Derived.StillTailTactics
import Derived.LoopTactic
import Derived.Laws.CopyOwn
import Derived.RegionTactic
import Derived.Deep.QuietTactic
import Derived.BigQuiet
import Derived.Lib.Hide
import Derived.WalkSmall
import Derived.Maps.RangeWalk
import Derived.Deep.DeepFit
import Derived.Test.YtlfpjfhpleociaaDoorMg01
import Derived.Test.YtlfpjfhpleociaaDoorMg02
import Derived.Test.YtlfpjfhpleociaaDoorProg
/-
  The statements' own Four, Eight, Put write a number behind bytes of the caller's: whatever else was there stays, but for the row written to. Conditions: the row is the caller's own, fewer than 2^46 bytes.
-/
namespace Go.Proofs.YtlfpjfhpleociaaDoor.Sha
open Go Go.RowKit
/-- An own row of bytes; since w0 nothing turned but the row r. -/
def OwnG (base : Nat) (r : Option Nat) (w0 w : World) (v : Value) (bs : List UInt8) : Prop :=
  w.ownsRow base 5 1 v bs.length (bs.map bV) ∧ w0.grownBy w r ∧ (v.ownBlock = r ∨ ∃ k, v.ownBlock = some k ∧ w0.heap.size ≤ k) ∧ base ≤ w.heap.size
theorem OwnG.start {base : Nat} {w : World} {v : Value} {bs : List UInt8} (h : w.ownsRow base 5 1 v bs.length (bs.map bV)) (hb : base ≤ w.heap.size) : OwnG base v.ownBlock w w v bs := ⟨h, grownBy_refl _ _, .inl rfl, hb⟩
theorem grown_over {w0 w w' : World} {r q : Option Nat} (h : w0.grownBy w r) (hg : w.grownBy w' q) (hq : q = r ∨ ∃ k, q = some k ∧ w0.heap.size ≤ k) : w0.grownBy w' r :=
  ⟨hg.os.trans h.os, hg.tape.trans h.tape, hg.output.trans h.output, Nat.le_trans h.size hg.size, fun k hk hne => by
    rw [hg.block k (Nat.lt_of_lt_of_le hk h.size) (by
      rcases hq with rfl | ⟨k', rfl, hk'⟩
      · exact hne
      · exact fun e => by have := Option.some.inj e; omega)]
    exact h.block k hk hne⟩
theorem OwnG.trans {base : Nat} {r : Option Nat} {w0 w w' : World} {v v' : Value} {bs cs : List UInt8} (h : OwnG base r w0 w v bs) (k : OwnG base v.ownBlock w w' v' cs) : OwnG base r w0 w' v' cs :=
  ⟨k.1, grown_over h.2.1 k.2.1 h.2.2.1, by
    rcases k.2.2.1 with e | ⟨q, e, hq⟩
    · rw [e]
      exact h.2.2.1
    · exact .inr ⟨q, e, Nat.le_trans h.2.1.size hq⟩, k.2.2.2⟩
/-- Many bytes at once. -/
theorem OwnG.app {base : Nat} {r : Option Nat} {w0 w w' : World} {v v' : Value} {bs cs : List UInt8} (h : OwnG base r w0 w v bs) (ho : w'.ownsRow base 5 1 v' (bs.length + cs.length) (bs.map bV ++ cs.map bV)) (hg : w.grownBy w' v.ownBlock)
    (hv : v'.ownBlock = v.ownBlock ∨ v'.ownBlock = some w.heap.size) : OwnG base r w0 w' v' (bs ++ cs) := by
  refine ⟨?_, grown_over h.2.1 hg h.2.2.1, ?_, Nat.le_trans h.2.2.2 hg.size⟩
  · rw [List.map_append, List.length_append]
    exact ho
  · rcases hv with e | e
    · rw [e]
      exact h.2.2.1
    · exact .inr ⟨_, e, h.2.1.size⟩
/-- Only new memory turned, if the row is above. -/
theorem OwnG.below {base B : Nat} {r : Option Nat} {w0 w : World} {v : Value} {bs : List UInt8} (h : OwnG base r w0 w v bs) (hr : ∀ k, r = some k → B ≤ k) (hB : B ≤ w0.heap.size) : Below B w0 w :=
  ⟨h.2.1.os, h.2.1.tape, h.2.1.output, h.2.1.size, fun k hk => h.2.1.block k (by omega) (fun e => by have := hr k e.symm; omega)⟩
section
variable {P : Program}
/-- Any bytes behind an own row: it stays where it was, or is new. -/
theorem wp_append_g (w : World) {o : Oper} {a : Act} {K : Act → World → Prop} {Q : Exit → Act → World → Prop}
    (s x : Operand) (t : TypeId) (hop : o.op = Op.call { callee := Callee.builtin Builtin.append, args := #[s, x], argTypes := #[t, t] })
    (base : Nat) (e : TypeId) (i : TypeInfo) (h1 : P.underlying t = some (.slice e)) (h2 : P.info? e = some i) (hz : i.zero = some (.int .u8 0)) (h4 : i.size = 1) (h5 : i.bytes = 1)
    (v : Value) (k : Nat) (xs : List Value) (hs : a.eval s = v) (hown : w.ownsRow base e 1 v k xs) (y : Value) (bs : List UInt8) (hx : a.eval x = y) (hsrc : SrcB w y bs) (hlen : k + bs.length ≤ 70368744177680) (hbase : base ≤ w.heap.size)
    (hK : ∀ v' w', w'.ownsRow base e 1 v' (k + bs.length) (xs ++ bs.map bV) → w.grownBy w' v.ownBlock → (v'.ownBlock = v.ownBlock ∨ v'.ownBlock = some w.heap.size) → K (a.put o.dst v') w') : o.wp P a w K Q := by
  rcases hsrc with ⟨sp, c, rfl, rfl⟩ | ⟨h0, bb, off, c, rfl, hc, hcell⟩
  · have hrun := run_append_any0 (P := P) (w := w) base t o.type e i h1 h2 v k xs (by rw [h4]; exact hown) sp c
    unfold Oper.wp
    simp [execOp, hop, resolve, invoke, builtin, hs, hx, hrun, Result.andThen]
    refine hK v w ?_ (grownBy_refl _ _) (.inl rfl)
    show w.ownsRow _ _ _ _ _ _
    simpa using hown
  · obtain ⟨v', w', hr, h2', h3', _, h5'⟩ := run_append_own_at (P := P) w base t o.type e i (.int .u8 0) 1 1 h1 h2 hz h4 h5 rfl (by decide) v k xs hown ⟨bb, off, none⟩ bs.length c (bs.map bV) (by simp)
      (fun j u hu => by
        rw [List.getElem?_map] at hu
        obtain ⟨b, hb, rfl⟩ := Option.map_eq_some_iff.1 hu
        have hj := (List.getElem?_eq_some_iff.1 hb).1
        rw [Addr.add_mid, hcell j hj]
        simp [bV, List.getD, hb])
      (bV_one' bs) (by unfold maxLen; omega) (by omega) hbase
    unfold Oper.wp execOp
    simp only [hop, resolve, invoke, builtin, Sem.run_bind, Sem.run_pure, Result.andThen_ok, List.map_toArray, List.map_cons, List.map_nil, hs, hx, hr]
    exact hK v' w' h2' h3' h5'
theorem wpList_append_g (w : World) {ops : Array Oper} {rest : List Oper} {o : Oper} {a : Act} {Q : Exit → Act → World → Prop} (hg : o.guard = none)
    (s x : Operand) (t : TypeId) (hop : o.op = Op.call { callee := Callee.builtin Builtin.append, args := #[s, x], argTypes := #[t, t] })
    (base : Nat) (e : TypeId) (i : TypeInfo) (h1 : P.underlying t = some (.slice e)) (h2 : P.info? e = some i) (hz : i.zero = some (.int .u8 0)) (h4 : i.size = 1) (h5 : i.bytes = 1)
    (v : Value) (k : Nat) (xs : List Value) (hs : a.eval s = v) (hown : w.ownsRow base e 1 v k xs) (y : Value) (bs : List UInt8) (hx : a.eval x = y) (hsrc : SrcB w y bs) (hlen : k + bs.length ≤ 70368744177680) (hbase : base ≤ w.heap.size)
    (hK : ∀ v' w', w'.ownsRow base e 1 v' (k + bs.length) (xs ++ bs.map bV) → w.grownBy w' v.ownBlock → (v'.ownBlock = v.ownBlock ∨ v'.ownBlock = some w.heap.size) → wpList P ops Q rest (a.put o.dst v') w') : wpList P ops Q (o :: rest) a w :=
  wpList_plain hg fun _ hK' => wp_append_g w s x t hop base e i h1 h2 hz h4 h5 v k xs hs hown y bs hx hsrc hlen hbase (fun v' w' a1 a2 a3 => hK' _ _ (hK v' w' a1 a2 a3))
end
end Go.Proofs.YtlfpjfhpleociaaDoor.Sha

/-
  What may be read first in a region that draws its order; bytes in the middle of a block as a source. No conditions beyond those that each states.
-/
namespace Go.Proofs.YtlfpjfhpleociaaDoor.Sha
open Go Go.RowKit
/-- A cell that every world of S holds may be read first. -/
theorem yieldsIf_load_one {P : Program} {ops : Array Oper} {S : World → Prop} {op : Oper} {a : Act} (hw : Region.wanted op (yielded ops a.tmps) = true) (ty : TypeId) (x : Operand) (ho : op.op = .load ty x)
    (b off : Nat) (hx : a.eval x = .pointer (some ⟨b, off, none⟩)) (v : Value) (d : TypeDesc) (hS : ∀ w, S w → w.cell? ⟨b, off, none⟩ = some v)
    (hu : P.underlying ty = some d) (hd : d.isRow = false) : YieldsIf P ops S op v a :=
  .inl ⟨hw, fun w hw' => by
    have hagg : (isAgg ty).run P w = .ok false w := by
      unfold isAgg
      rw [Sem.run_bind, run_underlying hu w]
      cases d <;> simp_all
    unfold execOp
    simp [ho, hx, Instr.loadAt, Instr.sureAddr, Sem.run_bind, loadVar, hagg, hS w hw']⟩
/-- A whole row that every world of S holds may be read first. -/
theorem yieldsIf_load_row {P : Program} {ops : Array Oper} {S : World → Prop} {op : Oper} {a : Act} (hw : Region.wanted op (yielded ops a.tmps) = true) (ty : TypeId) (x : Operand) (ho : op.op = .load ty x)
    (g : Nat) (hx : a.eval x = .pointer (some ⟨g, 0, none⟩)) (t : TypeId) (cs : Array Value) (fr : Nat × Nat) (d : TypeDesc) (hS : ∀ w, S w → w.heap[g]? = some (.cells cs t fr))
    (hu : P.underlying ty = some d) (hd : (match d with | .struct _ | .array _ _ => true | _ => false) = true) (hi : (P.info? ty).map (·.size) = some cs.size) : YieldsIf P ops S op (.agg cs) a :=
  .inl ⟨hw, fun w hw' => by
    unfold execOp
    simp only [ho, hx, Instr.loadAt, Instr.sureAddr, Sem.run_bind, Sem.run_pure, Result.andThen_ok, run_loadVar_row w g t ty cs fr d (hS w hw') hu hd hi]⟩
/-- A part of a block as a source of bytes. -/
theorem src_range {w : World} {b o m c : Nat} {bs : List UInt8} (h : w.rangeAt b o (bs.map bV)) (hm : m = bs.length) (h0 : 0 < m) (hc : m ≤ c) : SrcB w (.slice (some ⟨b, o, none⟩) m c) bs := by
  refine .inr ⟨by omega, b, o, c, by rw [hm], by omega, fun j hj => h j _ ?_⟩
  rw [List.getElem?_map, List.getElem?_eq_getElem hj]
  simp [bV, List.getD, List.getElem?_eq_getElem hj]
theorem get_of_drop {α : Type} {l rest : List α} {i : Nat} {x : α} (h : l.drop i = x :: rest) : l[i]? = some x := by
  have := congrArg (·[0]?) h
  simpa [List.getElem?_drop] using this
section
variable {P : Program} {md : Region.Mode} {l : List Oper} {Q : Exit → Act → World → Prop} {S : World → Prop}
/-- Take operation i first: the operation comes out written. -/
theorem held_take {i : Nat} {oi : Oper} {rest : List Oper} {v : Value} {fuel : Nat} {listed : Array Bool} {a : Act} {w : World} (hd : l.drop i = oi :: rest)
    (hs : Region.noSelect l.toArray = true) (hf : Region.free md l.toArray listed i = true) (hr : (Region.ready md l.toArray listed).contains i = true)
    (hQ : ∀ c a w, Q (.panic c) (a.put oi.dst v) w → Q (.panic c) a w) (hy : YieldsIf P l.toArray S oi v a) (hS : S w)
    (h : wpAnyH P md l.toArray Q S fuel (listed.setIfInBounds i true) (a.put oi.dst v) w) : wpAnyH P md l.toArray Q S (fuel + 1) listed a w :=
  wpAnyH_take (by rw [List.getElem?_toArray]; exact get_of_drop hd) hs hf hr hQ hy hS h
/-- Operation i comes up. -/
theorem held_cons {fuel : Nat} {listed : Array Bool} {a : Act} {w : World} {i : Nat} {o : Oper} {rest : List Oper} {rs : List Nat} (hd : l.drop i = o :: rest)
    (h : ∀ K' : Act → World → Prop, Shut (∀ a w, S w → (S w → wpAnyH P md l.toArray Q S fuel (listed.setIfInBounds i true) a w) → K' a w) → if Region.wanted o (yielded l.toArray a.tmps) = true then Oper.wp P o a w K' Q else K' (a.put o.dst undef) w)
    (hs : AllReadyH P md l.toArray Q S fuel listed a w rs) : AllReadyH P md l.toArray Q S fuel listed a w (i :: rs) :=
  AllReadyH.cons (by rw [List.getElem?_toArray]; exact get_of_drop hd) h hs
end
end Go.Proofs.YtlfpjfhpleociaaDoor.Sha

/-
  The statements' own TxBytes writes a transaction's bytes as the chapter says. Nothing that was there turns. Conditions: a transaction that lies in memory; its inputs' bytes and its outputs' bytes fewer than 2^44.
-/
namespace Go.Proofs.YtlfpjfhpleociaaDoor.Sha
open Go Go.RowKit
theorem OwnG.keep {base : Nat} {r : Option Nat} {w0 w w' : World} {v : Value} {bs : List UInt8} (h : OwnG base r w0 w v bs) (hb : Below w.heap.size w w') : OwnG base r w0 w' v bs :=
  ⟨own_kept h.1 hb, grownBy_trans h.2.1 (grownBy_of_below hb _), h.2.2.1, Nat.le_trans h.2.2.2 hb.size⟩
end Go.Proofs.YtlfpjfhpleociaaDoor.Sha

/-
  What package tx is shown to answer, call by call, as hypotheses for the statements' walks. A transaction of a few inputs and outputs is small. No conditions.
-/
namespace Go.Proofs.YtlfpjfhpleociaaDoor.Sha
open Go Go.RowKit
/-- The errors that package tx tells are there. -/
def Er8 (w : World) (E : Nat → Addr) : Prop := ∀ i, i < 7 ∨ i = 13 → w.cell? ⟨errG.getD i 0, 0, none⟩ = some (errV E (i + 1))
theorem Er8.below {w w' : World} {E : Nat → Addr} (h : Er8 w E) (hb : Below w.heap.size w w') : Er8 w' E := fun i hi => by
  rw [hb.cell (p := ⟨errG.getD i 0, 0, none⟩) (World.block_lt_of_cell? w _ (h i hi))]
  exact h i hi
theorem Er8.er {w : World} {E : Nat → Addr} (h : Er8 w E) : Er w E := ⟨h 0 (by omega), h 1 (by omega), h 3 (by omega)⟩
/-- Few enough. -/
def TxSmall (t : TTx) : Prop := TxCame t ∧ t.ins.length ≤ 1000 ∧ t.outs.length ≤ 1000 ∧ KeysLe t.ins 100000
theorem insB_bound : ∀ (l : List TIn) {n : Nat}, InsOk l → KeysLe l n → (insB l).length ≤ (49 + n) * l.length
  | [], _, _, _ => by simp [insB]
  | x :: l, n, h, hk => by
    have ih := insB_bound l (fun z hz => h z (List.mem_cons_of_mem _ hz)) (fun z hz => hk z (List.mem_cons_of_mem _ hz))
    have h1 := inB_length x (h x List.mem_cons_self)
    have h2 := lenN_bd x.key.length
    have h3 := hk x List.mem_cons_self
    simp only [insB] at ih
    simp only [insB, List.flatMap_cons, List.length_append, List.length_cons, h1, Nat.mul_add, Nat.mul_one]
    omega
theorem TxSmall.ins0 {t : TTx} (h : TxSmall t) : (insB t.ins).length ≤ 200000000 := by
  have h1 := insB_bound t.ins h.1.2.1 h.2.2.2
  have h2 := h.2.1
  have : (49 + 100000) * t.ins.length ≤ (49 + 100000) * 1000 := Nat.mul_le_mul_left _ h2
  omega
theorem TxSmall.ins {t : TTx} (h : TxSmall t) : (insB t.ins).length ≤ 17592186044416 := Nat.le_trans h.ins0 (by omega)
theorem TxSmall.outs {t : TTx} (h : TxSmall t) : (outsB t.outs).length ≤ 17592186044416 := by
  have h1 := outsB_length t.outs h.1.2.2.1
  have h2 := h.2.2.1
  omega
end Go.Proofs.YtlfpjfhpleociaaDoor.Sha

/-
  What the walks of package tx share: cells of an input and an output as rows, bytes of so many of them, sums that stay. No conditions beyond those that each states.
-/
namespace Go.Proofs.YtlfpjfhpleociaaDoor.Sha
open Go Go.RowKit
theorem TxSmall.bytes {t : TTx} (h : TxSmall t) : (txB t).length = 8 + lenN t.ins.length + lenN t.outs.length + (insB t.ins).length + 40 * t.outs.length := by
  simp only [txB, List.length_append, leB_length, putL_length, outsB_length t.outs h.1.2.2.1]
  omega
end Go.Proofs.YtlfpjfhpleociaaDoor.Sha

/-
  The statements' own Bytes copies bytes into new memory. Conditions: at least one byte, fewer than 2^46; the bytes lie where the slice says.
-/
namespace Go.Proofs.YtlfpjfhpleociaaDoor.Sha
open Go Go.RowKit
def CpInv (bs : List UInt8) (n : Nat) (w : World) (v i : Value) (wr : World) : Prop :=
  ∃ k : Nat, k ≤ n ∧ i = .int .i64 k ∧ v = .slice (some ⟨w.heap.size, 0, none⟩) k n ∧ wr.ownsRow w.heap.size 5 1 v k ((bs.take k).map bV) ∧ Below w.heap.size w wr
set_option maxHeartbeats 400000 in
set_option maxRecDepth 100000 in
theorem bytes_copy (bs : List UInt8) (sp : Option Addr) (n cap : Nat) (w : World) (hs : SrcB w (.slice sp n cap) bs) (hn0 : 0 < n) (hn : n ≤ 70368744177664) :
    Calls Tryd.prog 10 #[.slice sp n cap] w fun e w' => e = .returned (.slice (some ⟨w.heap.size, 0, none⟩) n n) ∧ w'.ownsRow w.heap.size 5 1 (.slice (some ⟨w.heap.size, 0, none⟩) n n) n (bs.map bV) ∧ Below w.heap.size w w' := by
  obtain ⟨i0, hi, hz0, hz1, hz2⟩ := info_parts info_u8
  have hnb := hs.le.1
  rcases hs with ⟨sp', cap', hv, rfl⟩ | ⟨_, bb, off, cap', hv, hc, hcell⟩
  · cases hv; omega
  cases hv
  obtain ⟨n, hn1⟩ : ∃ n, n = bs.length := ⟨_, rfl⟩
  have hbb : bb < w.heap.size := SrcB.block hn0 hcell
  rw [← hn1] at hc hcell hn0 hn ⊢
  have HN := Lib.hid hn1
  have HCELL := Lib.hid hcell
  clear hn1 hcell hnb
  go_enter Tryd.func10, Tryd.ntmps10
  go_wp2_with (at_make; refine wpList_make_own _ rfl _ _ 28 rfl w.heap.size 5 i0 (.int .u8 0) 1 Tryd.underlying28 hi hz0 hz1 _ _ _ n rfl rfl rfl (by rw [hz2]; omega) (by unfold maxLen; omega) (Nat.le_refl _) ?_; intro w2 hown hgrow; have HO := Lib.hid hown; have HG := Lib.hid hgrow; clear hown hgrow; go_frame)
  have hb2 : Below w.heap.size w w2 := (Below.refl _ _).grown HG.out (Nat.le_refl _) (fun k hk => by cases hk)
  have HB2 := Lib.hid hb2
  clear hb2
  go_loopw [3, 4] (fun v i wr => CpInv bs n w v i wr) (fun _ i _ => n - (intOf i).toNat)
  case atStart => exact ⟨0, by omega, rfl, rfl, HO.out, HB2.out⟩
  case round =>
    clear HO HG HB2
    obtain ⟨k, hk, rfl, rfl, hown, hb⟩ := hrel
    have HO := Lib.hid hown
    have HB := Lib.hid hb
    clear hown hb
    by_cases hlt : k < n
    · obtain ⟨c, hc2⟩ : ∃ c, c = bs.getD k 0 := ⟨_, rfl⟩
      have ck : wr.cell? ⟨bb, off + k, none⟩ = some (.int .u8 (bv c)) := by rw [HB.out.cell (p := ⟨bb, off + k, none⟩) hbb, hc2]; exact HCELL.out k hlt
      have HT : Hid (bs.take (k + 1) = bs.take k ++ [c]) := by
        have hkx : k < bs.length := by have := HN.out; omega
        have e : bs[k] = c := by rw [hc2]; simp [List.getD, List.getElem?_eq_getElem hkx]
        show _ = _
        rw [List.take_succ_eq_append_getElem hkx, e]
      clear hc2
      go_wp2_with (at_builtin; refine wpList_append_fits _ rfl _ _ 28 rfl w.heap.size 5 i0 1 Tryd.underlying28 hi hz1 w.heap.size k n _ rfl (HO.out.alloc _) ⟨wr.heap.size, 0, none⟩ 1 1 [.int .u8 (bv c)] rfl rfl (cell_one_new _ _ _) (one_u8 _) (by omega) ?_; intro w3 hown2 hgrow; have hown3 := Lib.hid hown2; have hgrow3 := Lib.hid hgrow; clear hown2 hgrow; go_frame)
      go_roundw
      case rel =>
        refine ⟨k + 1, by omega, by go_num, rfl, ?_, ?_⟩
        · rw [HT.out, List.map_append]
          exact hown3.out
        · have h1 : w.heap.size ≤ wr.heap.size := HB.out.size
          exact (HB.out.alloc h1 _).grown hgrow3.out (by simp; omega) (fun j hj => by cases hj; exact Nat.le_refl _)
      case measure => simp [intOf]; omega
    · have hkn : k = n := by omega
      have hge : ¬ (k : Int) < (n : Int) := by omega
      have HF : Hid (wr.ownsRow w.heap.size 5 1 (.slice (some ⟨w.heap.size, 0, none⟩) n n) n (bs.map bV)) := by
        have h := HO.out
        rw [hkn, List.take_of_length_le (by have := HN.out; omega)] at h
        exact h
      have HKN := Lib.hid hkn
      clear hkn
      go_wp2_with fail
      go_ret
      exact ⟨by rw [HKN.out]; rfl, HF.out, HB.out⟩
set_option maxHeartbeats 400000 in
set_option maxRecDepth 100000 in
theorem bytes_copy0 (sp : Option Addr) (cap : Nat) (w : World) :
    Calls Tryd.prog 10 #[.slice sp 0 cap] w fun e w' => e = .returned (.slice (some ⟨w.heap.size, 0, none⟩) 0 0) ∧ w'.ownsRow w.heap.size 5 1 (.slice (some ⟨w.heap.size, 0, none⟩) 0 0) 0 [] ∧ Below w.heap.size w w' := by
  obtain ⟨i0, hi, hz0, hz1, hz2⟩ := info_parts info_u8
  go_enter Tryd.func10, Tryd.ntmps10
  go_wp2_with (at_make; refine wpList_make_own _ rfl _ _ 28 rfl w.heap.size 5 i0 (.int .u8 0) 1 Tryd.underlying28 hi hz0 hz1 _ _ _ 0 rfl rfl rfl (by rw [hz2]; omega) (by unfold maxLen; omega) (Nat.le_refl _) ?_; intro w2 hown hgrow; have HO := Lib.hid hown; have HG := Lib.hid hgrow; clear hown hgrow; go_frame)
  have hb2 : Below w.heap.size w w2 := (Below.refl _ _).grown HG.out (Nat.le_refl _) (fun k hk => by cases hk)
  have HB2 := Lib.hid hb2
  clear hb2
  refine wp_loop_rounds 1 ?_
  rw [rounds_succ]
  go_wp2_with fail
  go_ret
  exact ⟨rfl, HO.out, HB2.out⟩
/-- A copy of any bytes. -/
theorem bytes_copy_any (bs : List UInt8) (sp : Option Addr) (n cap : Nat) (w : World) (hs : SrcB w (.slice sp n cap) bs) (hn : n ≤ 70368744177664) :
    Calls Tryd.prog 10 #[.slice sp n cap] w fun e w' => e = .returned (.slice (some ⟨w.heap.size, 0, none⟩) n n) ∧ w'.ownsRow w.heap.size 5 1 (.slice (some ⟨w.heap.size, 0, none⟩) n n) n (bs.map bV) ∧ Below w.heap.size w w' := by
  by_cases h0 : 0 < n
  · exact bytes_copy bs sp n cap w hs h0 hn
  · obtain rfl : n = 0 := by omega
    have hb := hs.le.1
    have hnil : bs = [] := List.eq_nil_of_length_eq_zero hb.symm
    subst hnil
    exact bytes_copy0 sp cap w
end Go.Proofs.YtlfpjfhpleociaaDoor.Sha

/-
  Inputs and outputs in rows of one's own: a row of them grows, its keys lie apart from it; what such a row is as a slice. What a slice literal of one or two structures lays. No conditions beyond those that each states.
-/
namespace Go.Proofs.YtlfpjfhpleociaaDoor.Sha
open Go Go.RowKit
/-- A slice of bytes that does not lie in this block. -/
def Off (kv : Value) (q : Option Nat) : Prop := ∀ sp n cap, kv = .slice (some sp) n cap → 0 < n → q ≠ some sp.block
theorem SrcB.off {w w' : World} {v : Value} {bs : List UInt8} {q : Option Nat} (h : SrcB w v bs) (ho : Off v q) (hg : w.grownBy w' q) : SrcB w' v bs := by
  rcases h with h | ⟨h0, bb, off, cap, hv, hc, hs⟩
  · exact .inl h
  · refine .inr ⟨h0, bb, off, cap, hv, hc, fun j hj => ?_⟩
    rw [World.cell?_of_block (hg.block bb (SrcB.block h0 hs) (fun e => ho _ _ _ hv h0 e.symm))]
    exact hs j hj
theorem KeyAt.off {w w' : World} {kv : Value} {key : List UInt8} {q : Option Nat} (h : KeyAt w kv key) (ho : Off kv q) (hg : w.grownBy w' q) : KeyAt w' kv key := ⟨h.1.off ho hg, h.2⟩
section
variable {base : Nat} {w w' : World} {v v' : Value} {l : List TIn} {ks : List Value} {m : List TOut}
end
section
variable {P : Program}
end
end Go.Proofs.YtlfpjfhpleociaaDoor.Sha

/-
  Plain mathematics of a transaction read out of bytes: an input, an output, the whole; all that is in the bytes, and what is amiss. No conditions beyond those that each states.
-/
namespace Go.Proofs.YtlfpjfhpleociaaDoor.Sha
open Go Go.RowKit
def inP : Par TIn := thenP (takeL 32) fun h => thenP (leP 4) fun n => thenP (numL 80) fun k => thenP (takeL k) fun key => mapP (fun s => ⟨padH h, n, key, s⟩) (leP 4)
def outP : Par TOut := thenP (leP 8) fun v => mapP (fun h => ⟨v, padH h⟩) (takeL 32)
def txP : Par TTx := thenP (leP 4) fun v => thenP (numL 50) fun n => thenP (manyP inP n) fun is => thenP (numL 50) fun m => thenP (manyP outP m) fun os => mapP (fun t => ⟨v, is, os, t⟩) (leP 4)
def noTx : TTx := ⟨0, [], [], 0⟩
/-- A transaction out of a Reader: none where an error was met. -/
def takeTx (bs : List UInt8) (c : Nat) : TTx × List UInt8 × Nat := if (txP bs c).2.2 = 0 then txP bs c else (noTx, (txP bs c).2)
/-- Bytes as a transaction, or what is amiss. -/
def readTx (bs : List UInt8) : TTx × Nat := if (txP bs 0).2.2 ≠ 0 then (noTx, (txP bs 0).2.2) else if (txP bs 0).2.1 ≠ [] then (noTx, 2) else ((txP bs 0).1, 0)
end Go.Proofs.YtlfpjfhpleociaaDoor.Sha

/-
  Plain mathematics of so many things read one behind the other, whether or not an error was met between: they leave and meet what those do that stop at the first error. No conditions.
-/
namespace Go.Proofs.YtlfpjfhpleociaaDoor.Sha
open Go Go.RowKit
section
variable {α β : Type} {p q : Par α}
/-- Behind an error nothing is read. -/
def Still (p : Par α) : Prop := ∀ bs c, c ≠ 0 → (p bs c).2 = (bs, c)
theorem Still.andThen {f : α → Par β} (h1 : Still p) (h2 : ∀ a, Still (f a)) : Still (thenP p f) := fun bs c hc => by
  have e := h1 bs c hc
  unfold thenP
  rw [e]
  exact h2 _ bs c hc
theorem Still.map (f : α → β) (h : Still p) : Still (mapP f p) := fun bs c hc => h bs c hc
/-- Two that leave and meet the same, and are the same where nothing is met. -/
def Sim (p q : Par α) : Prop := ∀ bs c, (p bs c).2 = (q bs c).2 ∧ ((p bs c).2.2 = 0 → p bs c = q bs c)
theorem Sim.refl (p : Par α) : Sim p p := fun _ _ => ⟨rfl, fun _ => rfl⟩
theorem Sim.andThen {f g : α → Par β} (h1 : Sim p q) (h2 : ∀ a, Sim (f a) (g a)) (s1 : ∀ a, Still (f a)) (s2 : ∀ a, Still (g a)) : Sim (thenP p f) (thenP q g) := fun bs c => by
  obtain ⟨e1, e2⟩ := h1 bs c
  unfold thenP
  by_cases hd : (p bs c).2.2 = 0
  · have e := e2 hd
    rw [← e]
    exact h2 _ _ _
  · rw [← e1]
    have a1 := s1 (p bs c).1 (p bs c).2.1 (p bs c).2.2 hd
    have a2 := s2 (q bs c).1 (p bs c).2.1 (p bs c).2.2 hd
    exact ⟨a1.trans a2.symm, fun h0 => by rw [a1] at h0; exact absurd h0 hd⟩
theorem Sim.map (f : α → β) (h : Sim p q) : Sim (mapP f p) (mapP f q) := fun bs c => by
  obtain ⟨e1, e2⟩ := h bs c
  unfold mapP
  exact ⟨e1, fun h0 => by rw [e2 h0]⟩
end
/-- What is left is no longer than what was there. -/
def Less {α : Type} (p : Par α) : Prop := ∀ bs c, (p bs c).2.1.length ≤ bs.length
theorem Less.andThen {α β : Type} {p : Par α} {f : α → Par β} (h1 : Less p) (h2 : ∀ a, Less (f a)) : Less (thenP p f) := fun bs c => Nat.le_trans (h2 _ _ _) (h1 bs c)
theorem Less.map {α β : Type} {p : Par α} (f : α → β) (h : Less p) : Less (mapP f p) := h
end Go.Proofs.YtlfpjfhpleociaaDoor.Sha

/-
  A value is stored into a part of a block of one's own; a Reader that stands on low memory. No conditions beyond those that each states.
-/
namespace Go.Proofs.YtlfpjfhpleociaaDoor.Sha
open Go Go.RowKit
section
variable {P : Program}
theorem setRow_grown {w : World} {g : Nat} (cs : Array Value) : w.grownBy (w.setRow g cs) (some g) := by
  refine ⟨rfl, rfl, rfl, by simp [World.setRow], fun k _ hk => ?_⟩
  simp only [World.setRow]
  rw [Array.getElem?_modify, if_neg (fun e => hk (by rw [e]))]
theorem run_store_part {w : World} (ty : TypeId) (g o : Nat) (A old C new : List Value) (T : TypeId) (v : Value) (hv : v.cells = new.toArray) (hA : A.length = o) (hlen : old.length = new.length)
    (hg : w.heap[g]? = some (.cells (A ++ old ++ C).toArray T (0, 0))) (hi : (P.info? ty).map (·.size) = some new.length) (h1 : ∀ u ∈ new, u.oneCell' = true) :
    (storeVar ty ⟨g, o, none⟩ v).run P w = .ok () (w.setRow g (A ++ new ++ C).toArray) := by
  have h := run_storeCells_at P g o T new 0 (A ++ old ++ C).toArray w hg (by simp; omega) h1
  have e : ((A ++ old ++ C).toArray.toList.take (o + 0) ++ new ++ (A ++ old ++ C).toArray.toList.drop (o + 0 + new.length)).toArray = (A ++ new ++ C).toArray := by
    congr 1
    subst hA
    simp only [Nat.add_zero]
    rw [List.append_assoc A old C, List.take_left, ← List.drop_drop, List.drop_left, ← hlen, List.drop_left]
  rw [e] at h
  cases hq : P.info? ty with
  | none => simp [hq] at hi
  | some i =>
    have hs : i.size = new.length := by simpa [hq] using hi
    simp [storeVar, sizeOf, typeInfo, hq, hv, hs]
    simpa using h
theorem wp_store_part {op : Oper} {a : Act} {w : World} {K : Act → World → Prop} {Q : Exit → Act → World → Prop} (ty : TypeId) (x y : Operand) (ho : op.op = .store ty x y)
    (g o : Nat) (A old C new : List Value) (T : TypeId) (v : Value) (hx : a.eval x = .pointer (some ⟨g, o, none⟩)) (hy : a.eval y = v) (hv : v.cells = new.toArray) (hA : A.length = o) (hlen : old.length = new.length)
    (hg : w.heap[g]? = some (.cells (A ++ old ++ C).toArray T (0, 0))) (hi : (P.info? ty).map (·.size) = some new.length) (h1 : ∀ u ∈ new, u.oneCell' = true)
    (h : ∀ w', w'.heap[g]? = some (.cells (A ++ new ++ C).toArray T (0, 0)) → w.grownBy w' (some g) → K (a.put op.dst undef) w') : op.wp P a w K Q := by
  unfold Oper.wp execOp
  simp only [ho, hx, hy, Instr.storeAt, Instr.sureAddr, Sem.run_bind, Sem.run_pure, Result.andThen_ok, run_store_part ty g o A old C new T v hv hA hlen hg hi h1]
  exact h _ (setRow_heap _ _ _ _ _ _ hg) (setRow_grown _)
theorem wpList_store_part {ops : Array Oper} {rest : List Oper} {op : Oper} {a : Act} {w : World} {Q : Exit → Act → World → Prop} (hgd : op.guard = none) (ty : TypeId) (x y : Operand) (ho : op.op = .store ty x y)
    (g o : Nat) (A old C new : List Value) (T : TypeId) (v : Value) (hx : a.eval x = .pointer (some ⟨g, o, none⟩)) (hy : a.eval y = v) (hv : v.cells = new.toArray) (hA : A.length = o) (hlen : old.length = new.length)
    (hg : w.heap[g]? = some (.cells (A ++ old ++ C).toArray T (0, 0))) (hi : (P.info? ty).map (·.size) = some new.length) (h1 : ∀ u ∈ new, u.oneCell' = true)
    (h : ∀ w', w'.heap[g]? = some (.cells (A ++ new ++ C).toArray T (0, 0)) → w.grownBy w' (some g) → wpList P ops Q rest (a.put op.dst undef) w') : wpList P ops Q (op :: rest) a w :=
  wpList_plain hgd fun _ hK => wp_store_part ty x y ho g o A old C new T v hx hy hv hA hlen hg hi h1 (fun w' a1 a2 => hK _ _ (h w' a1 a2))
end
theorem row_far {w w' : World} {g : Nat} {q : Option Nat} {o : Obj} (h : w.heap[g]? = some o) (hg : w.grownBy w' q) (hq : q ≠ some g) : w'.heap[g]? = some o := by
  rw [hg.block g (Array.getElem?_eq_some_iff.1 h).1 (fun e => hq e.symm)]
  exact h
theorem gr_low {w0 w w' : World} {r : Option Nat} {g : Nat} (h : w0.grownBy w r) (hg : w.grownBy w' (some g)) (hq : w0.heap.size ≤ g) : w0.grownBy w' r := grown_over h hg (.inr ⟨g, rfl, hq⟩)
/-- A Reader's bytes in memory that was there: a Reader of no bytes stands anywhere. -/
theorem rd_low {E : Nat → Addr} {m : Nat} {w : World} {r : Nat} {bs : List UInt8} {c : Nat} (h : RdI E m w r bs c) (hE : ErR w E r) : ∃ m', m' < w.heap.size ∧ RdI E m' w r bs c := by
  by_cases hb : bs = []
  · obtain ⟨v, h1, h2, h3, h4⟩ := h
    refine ⟨2, World.block_lt_of_cell? w _ hE.1.1, v, h1, h2, fun sp n cap hv hn => ?_, hE.2.1⟩
    rw [hv] at h2
    have := h2.le.1
    rw [hb] at this
    simp at this
    omega
  · exact ⟨m, h.m_lt hb, h⟩
end Go.Proofs.YtlfpjfhpleociaaDoor.Sha

/-
  Plain mathematics of SHA-256 on 32-bit words, as the chapter gives it, and how the model's integers of kind u32 compute with such words. No program is imported. No conditions.
-/
namespace Go.Proofs.YtlfpjfhpleociaaDoor.Sha
open Go
/-- A word as the model's integer. -/
def wv (x : UInt32) : Int := x.toNat
theorem wv_add (x y : UInt32) : IntKind.u32.wrap (wv x + wv y) = wv (x + y) := by
  unfold wv
  rw [IntKind.wrap_u32', UInt32.toNat_add]
  omega
theorem wv_sum (x y : UInt32) : (wv x + wv y) % 4294967296 = wv (x + y) := by
  rw [← wv_add, IntKind.wrap_u32']
theorem wv_xor (x y : UInt32) : bits .xor .u32 (wv x) (wv y) = wv (x ^^^ y) := by
  unfold wv
  rw [u32_xor_nat _ _ x.toNat_lt y.toNat_lt, UInt32.toNat_xor]
theorem wv_or (x y : UInt32) : bits .or .u32 (wv x) (wv y) = wv (x ||| y) := by
  unfold wv
  rw [u32_or_nat _ _ x.toNat_lt y.toNat_lt, UInt32.toNat_or]
theorem wv_and (x y : UInt32) : bits .and .u32 (wv x) (wv y) = wv (x &&& y) := by
  unfold wv
  rw [u32_and_nat _ _ x.toNat_lt y.toNat_lt, UInt32.toNat_and]
theorem wv_andNot (x y : UInt32) : bits .andNot .u32 (wv x) (wv y) = wv (x &&& ~~~y) := by
  unfold wv
  rw [u32_andNot_nat _ _ x.toNat_lt y.toNat_lt, UInt32.toNat_and, UInt32.toNat_not]
  rfl
/-- A word turned right by n bits. -/
def rotr (x : UInt32) (n : Nat) : UInt32 := (x >>> UInt32.ofNat n) ||| (x <<< UInt32.ofNat (32 - n))
theorem wv_shr (x : UInt32) (n : Nat) (h : n < 32) : wv x / 2 ^ n = wv (x >>> UInt32.ofNat n) := by
  unfold wv
  rw [UInt32.toNat_shiftRight, UInt32.toNat_ofNat_of_lt' (by show n < 2 ^ 32; omega), Nat.mod_eq_of_lt h, Nat.shiftRight_eq_div_pow]
  simp
theorem wv_shl (x : UInt32) (n : Nat) (h : n < 32) : IntKind.u32.wrap (wv x * 2 ^ n) = wv (x <<< UInt32.ofNat n) := by
  unfold wv
  rw [IntKind.wrap_u32', UInt32.toNat_shiftLeft, UInt32.toNat_ofNat_of_lt' (by show n < 2 ^ 32; omega), Nat.mod_eq_of_lt h, Nat.shiftLeft_eq]
  simp
theorem low5 (n : Nat) (h1 : 1 ≤ n) (h2 : n ≤ 31) : bits .and .u64 (IntKind.u64.wrap (-(n : Int))) 31 = 32 - (n : Int) := by
  have e : IntKind.u64.wrap (-(n : Int)) = ((18446744073709551616 - n : Nat) : Int) := by rw [IntKind.wrap_u64]; omega
  rw [e, show (31 : Int) = ((31 : Nat) : Int) from rfl, u64_and_nat _ _ (by omega) (by omega), show (31 : Nat) = 2 ^ 5 - 1 from rfl, Nat.and_two_pow_sub_one_eq_mod]
  omega
theorem rot_fact (x : UInt32) (n : Nat) (h1 : 1 ≤ n) (h2 : n ≤ 31) : bits .or .u32 (wv x * 2 ^ (32 - n) % 4294967296) (wv x / 2 ^ (32 - (32 - n))) = wv (rotr x n) := by
  rw [show 32 - (32 - n) = n by omega, ← IntKind.wrap_u32', wv_shl x _ (by omega), wv_shr x n (by omega), wv_or]
  unfold rotr
  rw [UInt32.or_comm]
def sS0 (x : UInt32) : UInt32 := rotr x 7 ^^^ rotr x 18 ^^^ (x >>> UInt32.ofNat 3)
def sS1 (x : UInt32) : UInt32 := rotr x 17 ^^^ rotr x 19 ^^^ (x >>> UInt32.ofNat 10)
def bS0 (x : UInt32) : UInt32 := rotr x 2 ^^^ rotr x 13 ^^^ rotr x 22
def bS1 (x : UInt32) : UInt32 := rotr x 6 ^^^ rotr x 11 ^^^ rotr x 25
theorem wv_shr3 (x : UInt32) : wv x / 8 = wv (x >>> UInt32.ofNat 3) := wv_shr x 3 (by omega)
theorem wv_shr10 (x : UInt32) : wv x / 1024 = wv (x >>> UInt32.ofNat 10) := wv_shr x 10 (by omega)
def wV (x : UInt32) : Value := .int .u32 (wv x)
/-- Four bytes read as a word, the highest first. -/
def rd (b : Nat → UInt8) (t : Nat) : UInt32 := ((b (4 * t)).toUInt32 <<< UInt32.ofNat 24) ||| ((b (4 * t + 1)).toUInt32 <<< UInt32.ofNat 16) ||| ((b (4 * t + 2)).toUInt32 <<< UInt32.ofNat 8) ||| (b (4 * t + 3)).toUInt32
def nextW (b : Nat → UInt8) (t : Nat) (l : List UInt32) : UInt32 :=
  if t < 16 then rd b t else sS1 (l.getD (t - 2) 0) + l.getD (t - 7) 0 + sS0 (l.getD (t - 15) 0) + l.getD (t - 16) 0
/-- The schedule's first t words. -/
def row (b : Nat → UInt8) : Nat → List UInt32
  | 0 => []
  | t + 1 => row b t ++ [nextW b t (row b t)]
theorem row_length (b : Nat → UInt8) : ∀ t, (row b t).length = t
  | 0 => rfl
  | t + 1 => by simp [row, row_length b t]
/-- The schedule's cells when t words stand. -/
def rowV (b : Nat → UInt8) (t : Nat) : List Value := (row b t).map wV ++ List.replicate (64 - t) (wV 0)
theorem rowV_set (b : Nat → UInt8) (t : Nat) (h : t < 64) : (rowV b t).toArray.setIfInBounds t (wV (nextW b t (row b t))) = (rowV b (t + 1)).toArray := by
  rw [List.setIfInBounds_toArray]
  congr 1
  unfold rowV
  rw [List.set_append_right _ _ (by simp [row_length])]
  simp only [List.length_map, row_length, Nat.sub_self]
  rw [show 64 - t = (64 - (t + 1)) + 1 by omega, List.replicate_succ, List.set_cons_zero]
  simp [row]
theorem rowV_get (b : Nat → UInt8) (t j : Nat) (h : j < t) : (rowV b t).toArray[j]? = some (.int .u32 (wv ((row b t).getD j 0))) := by
  unfold rowV
  rw [List.getElem?_toArray, List.getElem?_append_left (by simp [row_length]; omega), List.getElem?_map, List.getElem?_eq_getElem (by rw [row_length]; exact h)]
  simp [wV, List.getD, List.getElem?_eq_getElem (show j < (row b t).length by rw [row_length]; exact h)]
theorem wv_byte (x : UInt8) : bv x = wv x.toUInt32 := by
  unfold bv wv
  simp
theorem wv_shl24 (x : UInt32) : wv x * 16777216 % 4294967296 = wv (x <<< UInt32.ofNat 24) := by
  rw [← wv_shl x 24 (by omega), IntKind.wrap_u32']; rfl
theorem wv_shl16 (x : UInt32) : wv x * 65536 % 4294967296 = wv (x <<< UInt32.ofNat 16) := by
  rw [← wv_shl x 16 (by omega), IntKind.wrap_u32']; rfl
theorem wv_shl8 (x : UInt32) : wv x * 256 % 4294967296 = wv (x <<< UInt32.ofNat 8) := by
  rw [← wv_shl x 8 (by omega), IntKind.wrap_u32']; rfl
theorem bv_u32 (x : UInt8) : bv x % 4294967296 = wv x.toUInt32 := by
  have := bv_bd x
  rw [← wv_byte]
  omega
theorem bv_u32' (x : UInt8) : IntKind.u32.wrap (bv x) = wv x.toUInt32 := by rw [IntKind.wrap_u32', bv_u32]
theorem wr_shl24 (x : UInt32) : IntKind.u32.wrap (wv x * 16777216) = wv (x <<< UInt32.ofNat 24) := by rw [IntKind.wrap_u32', wv_shl24]
theorem wr_shl16 (x : UInt32) : IntKind.u32.wrap (wv x * 65536) = wv (x <<< UInt32.ofNat 16) := by rw [IntKind.wrap_u32', wv_shl16]
theorem wr_shl8 (x : UInt32) : IntKind.u32.wrap (wv x * 256) = wv (x <<< UInt32.ofNat 8) := by rw [IntKind.wrap_u32', wv_shl8]
theorem rowV_zero (b : Nat → UInt8) (t j : Nat) (h1 : t ≤ j) (h2 : j < 64) : (rowV b t).toArray[j]? = some (wV 0) := by
  unfold rowV
  rw [List.getElem?_toArray, List.getElem?_append_right (by simp [row_length]; omega), List.length_map, row_length, List.getElem?_replicate, if_pos (by omega)]
theorem nextW_low (b : Nat → UInt8) (t : Nat) (l : List UInt32) (h : t < 16) : nextW b t l = rd b t := by unfold nextW; rw [if_pos h]
theorem nextW_high (b : Nat → UInt8) (t : Nat) (l : List UInt32) (h : 16 ≤ t) : nextW b t l = sS1 (l.getD (t - 2) 0) + l.getD (t - 7) 0 + sS0 (l.getD (t - 15) 0) + l.getD (t - 16) 0 := by
  unfold nextW; rw [if_neg (by omega)]
theorem wV_one (l : List UInt32) : (l.map wV).toArray.all (·.oneCell') = true := by
  rw [Array.all_eq_true_iff_forall_mem]
  intro x hx
  simp at hx
  obtain ⟨a, _, rfl⟩ := hx
  rfl
theorem rowV_all (b : Nat → UInt8) : rowV b 64 = (row b 64).map wV := by simp [rowV]
/-- The eight words while a block is worked in. -/
structure St where
  a : UInt32
  b : UInt32
  c : UInt32
  d : UInt32
  e : UInt32
  f : UInt32
  g : UInt32
  h : UInt32
def St.cells (s : St) : List Value := [wV s.a, wV s.b, wV s.c, wV s.d, wV s.e, wV s.f, wV s.g, wV s.h]
def T1 (s : St) (k w : UInt32) : UInt32 := s.h + bS1 s.e + ((s.e &&& s.f) ^^^ (s.g &&& ~~~s.e)) + k + w
def T2 (s : St) : UInt32 := bS0 s.a + ((s.a &&& s.b) ^^^ (s.a &&& s.c) ^^^ (s.b &&& s.c))
def St.round (s : St) (k w : UInt32) : St := ⟨T1 s k w + T2 s, s.a, s.b, s.c, s.d + T1 s k w, s.e, s.f, s.g⟩
def kList : List UInt32 := [
  1116352408, 1899447441, 3049323471, 3921009573, 961987163, 1508970993, 2453635748, 2870763221,
  3624381080, 310598401, 607225278, 1426881987, 1925078388, 2162078206, 2614888103, 3248222580,
  3835390401, 4022224774, 264347078, 604807628, 770255983, 1249150122, 1555081692, 1996064986,
  2554220882, 2821834349, 2952996808, 3210313671, 3336571891, 3584528711, 113926993, 338241895,
  666307205, 773529912, 1294757372, 1396182291, 1695183700, 1986661051, 2177026350, 2456956037,
  2730485921, 2820302411, 3259730800, 3345764771, 3516065817, 3600352804, 4094571909, 275423344,
  430227734, 506948616, 659060556, 883997877, 958139571, 1322822218, 1537002063, 1747873779,
  1955562222, 2024104815, 2227730452, 2361852424, 2428436474, 2756734187, 3204031479, 3329325298]
def kW (t : Nat) : UInt32 := kList.getD t 0
/-- t rounds over a schedule. -/
def rounds (l : List UInt32) (s : St) : Nat → St
  | 0 => s
  | t + 1 => (rounds l s t).round (kW t) (l.getD t 0)
def St.plus (s r : St) : St := ⟨s.a + r.a, s.b + r.b, s.c + r.c, s.d + r.d, s.e + r.e, s.f + r.f, s.g + r.g, s.h + r.h⟩
/-- One block of 64 bytes worked in. -/
def compress (s : St) (b : Nat → UInt8) : St := s.plus (rounds (row b 64) s 64)
def start : St := ⟨0x6a09e667, 0xbb67ae85, 0x3c6ef372, 0xa54ff53a, 0x510e527f, 0x9b05688c, 0x1f83d9ab, 0x5be0cd19⟩
theorem St.cells_length (s : St) : s.cells.length = 8 := rfl
theorem wV_get (l : List UInt32) (j : Nat) (h : j < l.length) : (l.map wV).toArray[j]? = some (.int .u32 (wv (l.getD j 0))) := by
  simp [wV, List.getD, List.getElem?_eq_getElem h]
end Go.Proofs.YtlfpjfhpleociaaDoor.Sha

/-
  The small turning functions of package digest answer what the chapter says of them, for every word. No conditions.
-/
namespace Go.Proofs.YtlfpjfhpleociaaDoor.Sha
open Go Go.RowKit
set_option maxRecDepth 100000 in
theorem rot_any (x : UInt32) (n : Nat) (k : Int) (hk : k = -(n : Int)) (h1 : 1 ≤ n) (h2 : n ≤ 31) (w : World) :
    Calls Tryd.prog 54 #[.int .u32 (wv x), .int .i64 k] w fun e w' => e = .returned (.int .u32 (wv (rotr x n))) ∧ w = w' := by
  subst hk
  have hl := low5 n h1 h2
  go_enter Tryd.func54, Tryd.ntmps54
  go_wp2
  go_ret
  exact ⟨ret_int (rot_fact x n h1 h2), rfl⟩
set_option maxRecDepth 100000 in
theorem turn_any (x : UInt32) (n : Nat) (k : Int) (hk : k = (n : Int)) (h1 : 1 ≤ n) (h2 : n ≤ 31) (w : World) :
    Calls Tryd.prog 53 #[.int .u32 (wv x), .int .i64 k] w fun e w' => e = .returned (.int .u32 (wv (rotr x n))) ∧ w = w' := by
  subst hk
  go_enter Tryd.func53, Tryd.ntmps53
  go_wp2_with fail
  refine (rot_any x n _ rfl h1 h2 _).mono ?_
  rintro e w' ⟨rfl, rfl⟩
  go_wp2_with fail
  go_ret
  exact ⟨rfl, rfl⟩
section
set_option maxRecDepth 100000 in
attribute [local go_sem] wv_xor wv_shr3 wv_shr10
theorem sS0_any (x : UInt32) (w : World) :
    Calls Tryd.prog 52 #[.int .u32 (wv x)] w fun e w' => e = .returned (.int .u32 (wv (sS0 x))) ∧ w = w' := by
  go_enter Tryd.func52, Tryd.ntmps52
  go_wp2_with fail
  refine (turn_any x 7 _ rfl (by omega) (by omega) _).mono ?_
  rintro e w' ⟨rfl, rfl⟩
  go_wp2_with fail
  refine (turn_any x 18 _ rfl (by omega) (by omega) _).mono ?_
  rintro e w' ⟨rfl, rfl⟩
  go_wp2_with fail
  go_ret
  exact ⟨rfl, rfl⟩
set_option maxRecDepth 100000 in
theorem sS1_any (x : UInt32) (w : World) :
    Calls Tryd.prog 51 #[.int .u32 (wv x)] w fun e w' => e = .returned (.int .u32 (wv (sS1 x))) ∧ w = w' := by
  go_enter Tryd.func51, Tryd.ntmps51
  go_wp2_with fail
  refine (turn_any x 17 _ rfl (by omega) (by omega) _).mono ?_
  rintro e w' ⟨rfl, rfl⟩
  go_wp2_with fail
  refine (turn_any x 19 _ rfl (by omega) (by omega) _).mono ?_
  rintro e w' ⟨rfl, rfl⟩
  go_wp2_with fail
  go_ret
  exact ⟨rfl, rfl⟩
set_option maxRecDepth 100000 in
theorem bS0_any (x : UInt32) (w : World) :
    Calls Tryd.prog 50 #[.int .u32 (wv x)] w fun e w' => e = .returned (.int .u32 (wv (bS0 x))) ∧ w = w' := by
  go_enter Tryd.func50, Tryd.ntmps50
  go_wp2_with fail
  refine (turn_any x 2 _ rfl (by omega) (by omega) _).mono ?_
  rintro e w' ⟨rfl, rfl⟩
  go_wp2_with fail
  refine (turn_any x 13 _ rfl (by omega) (by omega) _).mono ?_
  rintro e w' ⟨rfl, rfl⟩
  go_wp2_with fail
  refine (turn_any x 22 _ rfl (by omega) (by omega) _).mono ?_
  rintro e w' ⟨rfl, rfl⟩
  go_wp2_with fail
  go_ret
  exact ⟨rfl, rfl⟩
set_option maxRecDepth 100000 in
theorem bS1_any (x : UInt32) (w : World) :
    Calls Tryd.prog 49 #[.int .u32 (wv x)] w fun e w' => e = .returned (.int .u32 (wv (bS1 x))) ∧ w = w' := by
  go_enter Tryd.func49, Tryd.ntmps49
  go_wp2_with fail
  refine (turn_any x 6 _ rfl (by omega) (by omega) _).mono ?_
  rintro e w' ⟨rfl, rfl⟩
  go_wp2_with fail
  refine (turn_any x 11 _ rfl (by omega) (by omega) _).mono ?_
  rintro e w' ⟨rfl, rfl⟩
  go_wp2_with fail
  refine (turn_any x 25 _ rfl (by omega) (by omega) _).mono ?_
  rintro e w' ⟨rfl, rfl⟩
  go_wp2_with fail
  go_ret
  exact ⟨rfl, rfl⟩
end
end Go.Proofs.YtlfpjfhpleociaaDoor.Sha

/-
  digest.spread makes the schedule of a block of 64 bytes, as the chapter gives it; nothing that was there turns. Conditions: the 64 bytes lie where the slice says.
-/
namespace Go.Proofs.YtlfpjfhpleociaaDoor.Sha
open Go Go.RowKit
/-- What stands at the head of each round: k words of the schedule. -/
def SpInv (b : Nat → UInt8) (B : Nat) (w : World) (top : Nat) (i : Value) (wr : World) : Prop :=
  ∃ k : Nat, k ≤ top ∧ i = .int .i64 k ∧ wr.heap[B]? = some (.cells (rowV b k).toArray 91 (0, 0)) ∧ Below B w wr
def SpInv2 (b : Nat → UInt8) (B : Nat) (w : World) (i : Value) (wr : World) : Prop :=
  ∃ k : Nat, 16 ≤ k ∧ k ≤ 64 ∧ i = .int .i64 k ∧ wr.heap[B]? = some (.cells (rowV b k).toArray 91 (0, 0)) ∧ Below B w wr
theorem sp_step {b : Nat → UInt8} {B k : Nat} {w wr : World} (hr : wr.heap[B]? = some (.cells (rowV b k).toArray 91 (0, 0))) (hb : Below B w wr) (hk : k < 64) (x : UInt32) (hx : nextW b k (row b k) = x) :
    (wr.setCell ⟨B, k, none⟩ (.int .u32 (wv x))).drew.heap[B]? = some (.cells (rowV b (k + 1)).toArray 91 (0, 0)) ∧ Below B w (wr.setCell ⟨B, k, none⟩ (.int .u32 (wv x))).drew := by
  subst hx
  refine ⟨?_, (hb.setCell (Nat.le_refl _) _).drew⟩
  rw [heap_drew, heap_setCell_same wr B k _ _ _ hr, ← rowV_set b k hk]
  rfl
attribute [local go_sem] bv_u32 bv_u32' wv_shl24 wv_shl16 wv_shl8 wr_shl24 wr_shl16 wr_shl8 wv_or wv_sum wv_add
set_option maxRecDepth 100000 in
theorem spread_any (b : Nat → UInt8) (bb boff cap : Nat) (w : World) (hb : ∀ j, j < 64 → w.cell? ⟨bb, boff + j, none⟩ = some (.int .u8 (bv (b j)))) :
    Calls Tryd.prog 48 #[.slice (some ⟨bb, boff, none⟩) 64 cap] w fun e w' => e = .returned (.agg ((row b 64).map wV).toArray) ∧ Below w.heap.size w w' := by
  have HB : Hid _ := hb
  have hbb : bb < w.heap.size := World.block_lt_of_cell? w _ (hb 0 (by omega))
  clear hb
  go_enter Tryd.func48, Tryd.ntmps48
  go_wp2_with fail
  go_loopw [5] (fun i wr => SpInv b w.heap.size w 16 i wr) (fun i _ => 16 - (intOf i).toNat)
  case atStart => exact ⟨0, by omega, rfl, by rw [heap_alloc_new]; rfl, (Below.refl _ _).alloc (Nat.le_refl _) _⟩
  case round =>
    obtain ⟨k, hk, rfl, hrow, hbel⟩ := hrel
    by_cases hlt : k < 16
    · have c0 : wr.cell? ⟨bb, boff + 4 * k, none⟩ = some (.int .u8 (bv (b (4 * k)))) := by rw [hbel.cell hbb]; exact HB.out _ (by omega)
      have c1 : wr.cell? ⟨bb, boff + (4 * k + 1), none⟩ = some (.int .u8 (bv (b (4 * k + 1)))) := by rw [hbel.cell hbb]; exact HB.out _ (by omega)
      have c2 : wr.cell? ⟨bb, boff + (4 * k + 2), none⟩ = some (.int .u8 (bv (b (4 * k + 2)))) := by rw [hbel.cell hbb]; exact HB.out _ (by omega)
      have c3 : wr.cell? ⟨bb, boff + (4 * k + 3), none⟩ = some (.int .u8 (bv (b (4 * k + 3)))) := by rw [hbel.cell hbb]; exact HB.out _ (by omega)
      have HR : Hid _ := hrow
      have HW : Hid _ := hbel
      clear hrow hbel
      go_wp2_with fail
      have g0 : IntKind.i64.wrap (4 * (k : Int)) = 4 * (k : Int) := IntWalk.i64_in _ (by omega)
      have g1 : IntKind.i64.wrap (4 * (k : Int) + 1) = 4 * (k : Int) + 1 := IntWalk.i64_in _ (by omega)
      have g2 : IntKind.i64.wrap (4 * (k : Int) + 2) = 4 * (k : Int) + 2 := IntWalk.i64_in _ (by omega)
      have g3 : IntKind.i64.wrap (4 * (k : Int) + 3) = 4 * (k : Int) + 3 := IntWalk.i64_in _ (by omega)
      have p0 : 0 ≤ 4 * (k : Int) := by omega
      have p1 : 0 ≤ 4 * (k : Int) + 1 := by omega
      have p2 : 0 ≤ 4 * (k : Int) + 2 := by omega
      have p3 : 0 ≤ 4 * (k : Int) + 3 := by omega
      have q0 : 4 * (k : Int) < 64 := by omega
      have q1 : 4 * (k : Int) + 1 < 64 := by omega
      have q2 : 4 * (k : Int) + 2 < 64 := by omega
      have q3 : 4 * (k : Int) + 3 < 64 := by omega
      have n0 : (4 * (k : Int)).toNat = 4 * k := by omega
      have n1 : (4 * (k : Int) + 1).toNat = 4 * k + 1 := by omega
      have n2 : (4 * (k : Int) + 2).toNat = 4 * k + 2 := by omega
      have n3 : (4 * (k : Int) + 3).toNat = 4 * k + 3 := by omega
      have q4 : (k : Int) < 64 := by omega
      have p4 : 0 ≤ (k : Int) := by omega
      go_still_tail 35, (by kernel_rfl)
      change wpList _ _ _ _ _ wr.drew
      clear g0 g1 g2 g3 n0 n1 n2 n3 q0 q1 q2 q3 p0 p1 p2 p3 c0 c1 c2 c3
      have s0 : wr.cell? ⟨w.heap.size, k, none⟩ = some (wV 0) := by rw [cell_of_row wr _ k _ _ _ HR.out]; exact rowV_zero b k k (Nat.le_refl _) (by omega)
      have s1 : wr.frozen? ⟨w.heap.size, k, none⟩ = false := frozen_of_row wr _ k _ _ HR.out
      go_wp2
      go_roundw
      case rel =>
        obtain ⟨r1, r2⟩ := sp_step HR.out HW.out (by omega) _ (nextW_low b k _ hlt)
        exact ⟨k + 1, by omega, by go_num, r1, r2⟩
      case measure => simp [intOf]; omega
    · have hk16 : k = 16 := by omega
      rw [hk16] at hrow
      have hge : ¬ (k : Int) < 16 := by omega
      clear hk16
      have HR : Hid _ := hrow
      have HW : Hid _ := hbel
      clear hrow hbel HB hk hlt
      obtain ⟨wo, rfl⟩ : ∃ wo : World, wo = wr := ⟨_, rfl⟩
      go_wp2_with fail
      go_loopw [4] (fun i wr => SpInv2 b w.heap.size w i wr) (fun i _ => 64 - (intOf i).toNat)
      case atStart => exact ⟨16, by omega, by omega, rfl, HR.out, HW.out⟩
      case round =>
        clear HR HW
        clear hge
        obtain ⟨k, hk1, hk, rfl, hrow, hbel⟩ := hrel
        by_cases hlt : k < 64
        · obtain ⟨x2, hx2⟩ : ∃ x : UInt32, (row b k).getD (k - 2) 0 = x := ⟨_, rfl⟩
          obtain ⟨x7, hx7⟩ : ∃ x : UInt32, (row b k).getD (k - 7) 0 = x := ⟨_, rfl⟩
          obtain ⟨x15, hx15⟩ : ∃ x : UInt32, (row b k).getD (k - 15) 0 = x := ⟨_, rfl⟩
          obtain ⟨x16, hx16⟩ : ∃ x : UInt32, (row b k).getD (k - 16) 0 = x := ⟨_, rfl⟩
          have HX : Hid (nextW b k (row b k) = sS1 x2 + x7 + sS0 x15 + x16) := by
            show _ = _
            rw [nextW_high b k _ hk1, hx2, hx7, hx15, hx16]
          have c2 : wr.cell? ⟨w.heap.size, k - 2, none⟩ = some (.int .u32 (wv x2)) := by rw [cell_of_row wr _ _ _ _ _ hrow, rowV_get b k _ (by omega), hx2]
          have c7 : wr.cell? ⟨w.heap.size, k - 7, none⟩ = some (.int .u32 (wv x7)) := by rw [cell_of_row wr _ _ _ _ _ hrow, rowV_get b k _ (by omega), hx7]
          have c15 : wr.cell? ⟨w.heap.size, k - 15, none⟩ = some (.int .u32 (wv x15)) := by rw [cell_of_row wr _ _ _ _ _ hrow, rowV_get b k _ (by omega), hx15]
          have c16 : wr.cell? ⟨w.heap.size, k - 16, none⟩ = some (.int .u32 (wv x16)) := by rw [cell_of_row wr _ _ _ _ _ hrow, rowV_get b k _ (by omega), hx16]
          clear hx2 hx7 hx15 hx16
          have HR : Hid _ := hrow
          have HW : Hid _ := hbel
          clear hrow hbel
          go_wp2_with fail
          have g2 : IntKind.i64.wrap ((k : Int) - 2) = (k : Int) - 2 := IntWalk.i64_in _ (by omega)
          have g7 : IntKind.i64.wrap ((k : Int) - 7) = (k : Int) - 7 := IntWalk.i64_in _ (by omega)
          have g15 : IntKind.i64.wrap ((k : Int) - 15) = (k : Int) - 15 := IntWalk.i64_in _ (by omega)
          have g16 : IntKind.i64.wrap ((k : Int) - 16) = (k : Int) - 16 := IntWalk.i64_in _ (by omega)
          have p2 : 0 ≤ (k : Int) - 2 := by omega
          have p7 : 0 ≤ (k : Int) - 7 := by omega
          have p15 : 0 ≤ (k : Int) - 15 := by omega
          have p16 : 0 ≤ (k : Int) - 16 := by omega
          have r2 : 2 ≤ (k : Int) := by omega
          have r7 : 7 ≤ (k : Int) := by omega
          have r15 : 15 ≤ (k : Int) := by omega
          have r16 : 16 ≤ (k : Int) := by omega
          have q2 : (k : Int) - 2 < 64 := by omega
          have q7 : (k : Int) - 7 < 64 := by omega
          have q15 : (k : Int) - 15 < 64 := by omega
          have q16 : (k : Int) - 16 < 64 := by omega
          have n2 : ((k : Int) - 2).toNat = k - 2 := by omega
          have n7 : ((k : Int) - 7).toNat = k - 7 := by omega
          have n15 : ((k : Int) - 15).toNat = k - 15 := by omega
          have n16 : ((k : Int) - 16).toNat = k - 16 := by omega
          have q0 : (k : Int) < 64 := by omega
          have p0 : 0 ≤ (k : Int) := by omega
          refine wp_region_still_tail 23 (by kernel_rfl) (by kernel_rfl) ?_
          simp only [List.take_succ_cons, List.take_zero, List.drop_succ_cons, List.drop_zero]
          repeat still_step
          still_call (same_of (sS1_any _ _))
          repeat still_step
          still_call (same_of (sS0_any _ _))
          repeat still_step
          refine wpStill_nil ?_
          change wpList _ _ _ _ _ wr.drew
          clear g2 g7 g15 g16 p2 p7 p15 p16 r2 r7 r15 r16 q2 q7 q15 q16 n2 n7 n15 n16 c2 c7 c15 c16
          have s0 : wr.cell? ⟨w.heap.size, k, none⟩ = some (wV 0) := by rw [cell_of_row wr _ k _ _ _ HR.out]; exact rowV_zero b k k (Nat.le_refl _) (by omega)
          have s1 : wr.frozen? ⟨w.heap.size, k, none⟩ = false := frozen_of_row wr _ k _ _ HR.out
          go_wp2
          go_roundw
          case rel =>
            obtain ⟨t1, t2⟩ := sp_step HR.out HW.out hlt _ HX.out
            exact ⟨k + 1, by omega, by omega, by go_num, t1, t2⟩
          case measure => simp [intOf]; omega
        · have hk64 : k = 64 := by omega
          rw [hk64, rowV_all] at hrow
          have hge : ¬ (k : Int) < 64 := by omega
          clear hk64
          have HR : Hid _ := hrow
          have HW : Hid _ := hbel
          clear hrow hbel hk hk1 hlt
          have hl : ((row b 64).map wV).toArray.size = 64 := by simp [row_length]
          have HL : Hid _ := hl
          clear hl
          go_wp2_with (first | (refine wpList_load_row rfl 91 (.tmp 2) rfl w.heap.size rfl 91 ((row b 64).map wV).toArray (0, 0) (.array 64 22) HR.out Tryd.underlying91 rfl (by rw [HL.out]; kernel_rfl) ?_) | (refine wpList_store_row rfl 91 (.tmp 2) (.tmp 71) rfl w.heap.size ((row b 64).map wV).toArray rfl rfl 91 ((row b 64).map wV).toArray HR.out (by rw [HL.out]; kernel_rfl) rfl (wV_one _) ?_))
          refine bodyPost_ret (results_cell_row rfl _ _ w.heap.size 91 ((row b 64).map wV).toArray (0, 0) (.array 64 22) rfl (setRow_heap _ _ _ _ _ _ HR.out) Tryd.underlying91 rfl (by rw [HL.out]; kernel_rfl)) rfl ⟨rfl, below_setRow HW.out (Nat.le_refl _) _⟩
end Go.Proofs.YtlfpjfhpleociaaDoor.Sha

/-
  digest.startWords answers the eight words that the chapter gives; digest.mix works one block of 64 bytes into eight words that lie at the head of a block of memory, as the chapter gives it; nothing else that was there turns. Conditions: the bytes, the words and the table lie where they should.
-/
namespace Go.Proofs.YtlfpjfhpleociaaDoor.Sha
open Go Go.RowKit
set_option maxRecDepth 100000 in
theorem start_any (w : World) : Calls Tryd.prog 43 #[] w fun e w' => e = .returned (.agg start.cells.toArray) ∧ Below w.heap.size w w' := by
  go_enter Tryd.func43, Tryd.ntmps43
  go_wp2
  refine bodyPost_ret (results_cell_row rfl _ _ w.heap.size 76 start.cells.toArray (0, 0) (.array 8 22) rfl (by rw [heap_alloc_new]; rfl) Tryd.underlying76 rfl (by kernel_rfl)) rfl ⟨rfl, (Below.refl _ _).alloc (Nat.le_refl _) _⟩
/-- What stands at the head of each round: t rounds are done. -/
def MxInv (l : List UInt32) (s : St) (w : World) (va vb vc vd ve vf vg vh i : Value) (wr : World) : Prop :=
  ∃ t : Nat, t ≤ 64 ∧ i = .int .i64 t ∧ va = .int .u32 (wv (rounds l s t).a) ∧ vb = .int .u32 (wv (rounds l s t).b) ∧ vc = .int .u32 (wv (rounds l s t).c) ∧ vd = .int .u32 (wv (rounds l s t).d)
    ∧ ve = .int .u32 (wv (rounds l s t).e) ∧ vf = .int .u32 (wv (rounds l s t).f) ∧ vg = .int .u32 (wv (rounds l s t).g) ∧ vh = .int .u32 (wv (rounds l s t).h) ∧ Below w.heap.size w wr
/-- The table of the rounds' words. -/
def KTab (w : World) : Prop := ∀ t, t < 64 → w.cell? ⟨25, t, none⟩ = some (.int .u32 (wv (kW t)))
theorem after_spread {w w1 : World} (hb1 : Below w.heap.size w w1) (o : Obj) (cs old : Array Value) (T : TypeId) (ho : o = .cells old T (0, 0)) :
    Below w.heap.size w ((w1.alloc o).setRow w1.heap.size cs) ∧ ((w1.alloc o).setRow w1.heap.size cs).heap[w1.heap.size]? = some (.cells cs T (0, 0)) := by
  subst ho
  exact ⟨below_setRow (hb1.alloc hb1.size _) hb1.size _, setRow_heap _ _ _ _ _ _ (heap_alloc_new _ _)⟩
theorem grownBy_setCell_drew {w wr : World} {B : Nat} (h : w.grownBy wr (some B)) (i : Nat) (v : Value) : w.grownBy (wr.setCell ⟨B, i, none⟩ v).drew (some B) :=
  ⟨h.os, h.tape, h.output, by have := h.size; simp [World.drew, World.setCell]; omega, fun k hk hne => by
    rw [heap_drew, heap_setCell_other _ _ _ _ (fun e => hne (by rw [e]))]
    exact h.block k hk hne⟩
theorem store_step {w wr : World} {B T : Nat} {cs : List Value} (hB : wr.heap[B]? = some (.cells cs.toArray T (0, 0))) (hG : w.grownBy wr (some B)) (i : Nat) (v : Value) (cs' : List Value) (hs : cs.set i v = cs') :
    (wr.setCell ⟨B, i, none⟩ v).drew.heap[B]? = some (.cells cs'.toArray T (0, 0)) ∧ w.grownBy (wr.setCell ⟨B, i, none⟩ v).drew (some B) := by
  refine ⟨?_, grownBy_setCell_drew hG i v⟩
  rw [heap_drew, heap_setCell_same wr B i _ _ _ hB, List.setIfInBounds_toArray, hs]
attribute [local go_sem] wv_add wv_sum wv_xor wv_and wv_andNot
set_option maxHeartbeats 1000000 in
set_option maxRecDepth 100000 in
theorem mix_any (s : St) (b : Nat → UInt8) (bb boff cap B T : Nat) (rest : List Value) (w : World) (hk : KTab w)
    (hB : w.heap[B]? = some (.cells (s.cells ++ rest).toArray T (0, 0))) (hb : ∀ j, j < 64 → w.cell? ⟨bb, boff + j, none⟩ = some (.int .u8 (bv (b j)))) :
    Calls Tryd.prog 44 #[.pointer (some ⟨B, 0, none⟩), .slice (some ⟨bb, boff, none⟩) 64 cap] w fun e w' =>
      e = .returned (.tuple #[]) ∧ w'.heap[B]? = some (.cells ((compress s b).cells ++ rest).toArray T (0, 0)) ∧ w.grownBy w' (some B) := by
  have HK := Lib.hid hk
  have HB := Lib.hid hB
  have hl : ((row b 64).map wV).toArray.size = 64 := by simp [row_length]
  have HL := Lib.hid hl
  clear hk hB hl
  go_enter Tryd.func44, Tryd.ntmps44
  go_wp2_with fail
  refine (spread_any b bb boff cap _ hb).mono ?_
  rintro e w1 ⟨rfl, hb1⟩
  have HB1 := Lib.hid hb1
  clear hb1 hb
  have hBw : B < w.heap.size := (Array.getElem?_eq_some_iff.1 HB.out).1
  go_wp2_with (refine wpList_store_row rfl 91 (.tmp 4) (.tmp 18) rfl w1.heap.size ((row b 64).map wV).toArray rfl rfl 91 _ (heap_alloc_new _ _) (by rw [HL.out]; kernel_rfl) (by rw [HL.out]; rfl) (wV_one _) ?_; go_frame)
  obtain ⟨f1, f2⟩ := after_spread HB1.out _ ((row b 64).map wV).toArray _ 91 rfl
  generalize hw2 : World.setRow _ _ _ = w2
  rw [hw2] at f1 f2
  clear hw2
  have hB2 : w2.heap[B]? = some (.cells (s.cells ++ rest).toArray T (0, 0)) := by rw [f1.block B hBw]; exact HB.out
  have HB2 := Lib.hid hB2
  have F1 := Lib.hid f1
  have F2 := Lib.hid f2
  have c0 : w2.cell? ⟨B, 0, none⟩ = some (.int .u32 (wv s.a)) := by rw [cell_of_row _ _ _ _ _ _ hB2]; rfl
  have c1 : w2.cell? ⟨B, 1, none⟩ = some (.int .u32 (wv s.b)) := by rw [cell_of_row _ _ _ _ _ _ hB2]; rfl
  have c2 : w2.cell? ⟨B, 2, none⟩ = some (.int .u32 (wv s.c)) := by rw [cell_of_row _ _ _ _ _ _ hB2]; rfl
  have c3 : w2.cell? ⟨B, 3, none⟩ = some (.int .u32 (wv s.d)) := by rw [cell_of_row _ _ _ _ _ _ hB2]; rfl
  have c4 : w2.cell? ⟨B, 4, none⟩ = some (.int .u32 (wv s.e)) := by rw [cell_of_row _ _ _ _ _ _ hB2]; rfl
  have c5 : w2.cell? ⟨B, 5, none⟩ = some (.int .u32 (wv s.f)) := by rw [cell_of_row _ _ _ _ _ _ hB2]; rfl
  have c6 : w2.cell? ⟨B, 6, none⟩ = some (.int .u32 (wv s.g)) := by rw [cell_of_row _ _ _ _ _ _ hB2]; rfl
  have c7 : w2.cell? ⟨B, 7, none⟩ = some (.int .u32 (wv s.h)) := by rw [cell_of_row _ _ _ _ _ _ hB2]; rfl
  clear f1 f2 hB2
  go_quiet (fail)
  go_wp2_with fail
  go_quiet (fail)
  clear c0 c1 c2 c3 c4 c5 c6 c7
  go_wp2_with (refine wpList_load_row rfl 91 (.tmp 4) rfl w1.heap.size rfl 91 ((row b 64).map wV).toArray (0, 0) (.array 64 22) F2.out Tryd.underlying91 rfl (by rw [HL.out]; kernel_rfl) ?_; go_frame)
  generalize hw3 : World.drewN _ _ = w3
  have HB3 : w3.heap[B]? = some (.cells (s.cells ++ rest).toArray T (0, 0)) := by rw [← hw3]; exact HB2.out
  have F3 : Below w.heap.size w w3 := by rw [← hw3]; exact below_drewN (below_drewN F1.out _) _
  have HB3 := Lib.hid HB3
  have F3 := Lib.hid F3
  clear hw3 HB2 F1 F2 HB1
  go_loopw [5, 6, 7, 8, 9, 10, 11, 12, 52] (fun va vb vc vd ve vf vg vh i wr => MxInv (row b 64) s w3 va vb vc vd ve vf vg vh i wr) (fun _ _ _ _ _ _ _ _ i _ => 64 - (intOf i).toNat)
  case atStart => exact ⟨0, by omega, rfl, rfl, rfl, rfl, rfl, rfl, rfl, rfl, rfl, Below.refl _ _⟩
  case round =>
    obtain ⟨t, ht, rfl, rfl, rfl, rfl, rfl, rfl, rfl, rfl, rfl, hbel⟩ := hrel
    obtain ⟨r, hr⟩ : ∃ r, rounds (row b 64) s t = r := ⟨_, rfl⟩
    rw [hr]
    by_cases hlt : t < 64
    · obtain ⟨x, hx⟩ : ∃ x, (row b 64).getD t 0 = x := ⟨_, rfl⟩
      have hix : ∀ W, (Instr.index 91 (.agg ((row b 64).map wV).toArray) (.int .i64 t)).run Tryd.prog W = .ok (.int .u32 (wv x)) W := fun W =>
        run_index_array 91 22 64 .u32 _ t _ Tryd.underlying91 Tryd.underlying22 (by kernel_rfl) hlt (by rw [wV_get _ _ (by rw [row_length]; exact hlt), hx])
      have ck : wr.cell? ⟨25, t, none⟩ = some (.int .u32 (wv (kW t))) := by
        have h0 := World.block_lt_of_cell? w _ (HK.out 0 (by omega))
        rw [hbel.cell (p := ⟨25, t, none⟩) (Nat.lt_of_lt_of_le h0 F3.out.size), F3.out.cell (p := ⟨25, t, none⟩) h0]
        exact HK.out t hlt
      have HE : Hid (rounds (row b 64) s (t + 1) = r.round (kW t) x) := by
        show (rounds (row b 64) s t).round (kW t) ((row b 64).getD t 0) = _
        rw [hr, hx]
      have HW := Lib.hid hbel
      clear hbel hr hx
      obtain ⟨kt, hkt⟩ : ∃ kt, kW t = kt := ⟨_, rfl⟩
      rw [hkt] at ck HE
      clear hkt
      have p0 : 0 ≤ (t : Int) := by omega
      have q0 : (t : Int) < 64 := by omega
      go_wp2_with fail
      go_quiet ((go_at_call 49; refine Calls.quiet_of_same (same_of (bS1_any _ _))))
      go_wp2_with (go_at_call 50; refine (bS0_any _ _).mono ?_; rintro e w' ⟨rfl, rfl⟩)
      go_roundw
      case rel =>
        refine ⟨t + 1, by omega, by go_num, ?_, ?_, ?_, ?_, ?_, ?_, ?_, ?_, below_drewN HW.out _⟩ <;> (rw [HE.out]; rfl)
      case measure => simp [intOf]; omega
    · have e64 : t = 64 := by omega
      have hge : ¬ (t : Int) < 64 := by omega
      have HR : Hid (rounds (row b 64) s 64 = r) := by rw [e64] at hr; exact hr
      have hBr : wr.heap[B]? = some (.cells (s.cells ++ rest).toArray T (0, 0)) := by
        rw [hbel.block B (Nat.lt_of_lt_of_le hBw F3.out.size)]
        exact HB3.out
      have hG : w.grownBy wr (some B) := grownBy_of_below (F3.out.trans (hbel.mono F3.out.size)) _
      have HW := Lib.hid hbel
      clear hbel hr e64 ht hlt
      have c : wr.cell? ⟨B, 0, none⟩ = some (.int .u32 (wv s.a)) := by rw [cell_of_row _ _ _ _ _ _ hBr]; rfl
      have z : wr.frozen? ⟨B, 0, none⟩ = false := frozen_of_row _ _ _ _ _ hBr
      have HB' := Lib.hid hBr
      have HG := Lib.hid hG
      clear hBr hG
      go_wp2_with fail
      go_still_tail 8, (by kernel_rfl)
      change wpList _ _ _ _ _ (World.drew _)
      go_wp2_with fail
      clear c z
      obtain ⟨hBr, hG⟩ := store_step HB'.out HG.out 0 (.int .u32 (wv (s.a + r.a))) ([wV (s.a + r.a), wV s.b, wV s.c, wV s.d, wV s.e, wV s.f, wV s.g, wV s.h] ++ rest) rfl
      clear HB' HG
      generalize hwk : (World.setCell _ _ _).drew = wk
      rw [hwk] at hBr hG
      clear hwk
      have c : wk.cell? ⟨B, 1, none⟩ = some (.int .u32 (wv s.b)) := by rw [cell_of_row _ _ _ _ _ _ hBr]; rfl
      have z : wk.frozen? ⟨B, 1, none⟩ = false := frozen_of_row _ _ _ _ _ hBr
      have HB' := Lib.hid hBr
      have HG := Lib.hid hG
      clear hBr hG
      go_still_tail 8, (by kernel_rfl)
      change wpList _ _ _ _ _ (World.drew _)
      go_wp2_with fail
      clear c z
      obtain ⟨hBr, hG⟩ := store_step HB'.out HG.out 1 (.int .u32 (wv (s.b + r.b))) ([wV (s.a + r.a), wV (s.b + r.b), wV s.c, wV s.d, wV s.e, wV s.f, wV s.g, wV s.h] ++ rest) rfl
      clear HB' HG
      generalize hwk : (World.setCell _ _ _).drew = wk
      rw [hwk] at hBr hG
      clear hwk
      have c : wk.cell? ⟨B, 2, none⟩ = some (.int .u32 (wv s.c)) := by rw [cell_of_row _ _ _ _ _ _ hBr]; rfl
      have z : wk.frozen? ⟨B, 2, none⟩ = false := frozen_of_row _ _ _ _ _ hBr
      have HB' := Lib.hid hBr
      have HG := Lib.hid hG
      clear hBr hG
      go_still_tail 8, (by kernel_rfl)
      change wpList _ _ _ _ _ (World.drew _)
      go_wp2_with fail
      clear c z
      obtain ⟨hBr, hG⟩ := store_step HB'.out HG.out 2 (.int .u32 (wv (s.c + r.c))) ([wV (s.a + r.a), wV (s.b + r.b), wV (s.c + r.c), wV s.d, wV s.e, wV s.f, wV s.g, wV s.h] ++ rest) rfl
      clear HB' HG
      generalize hwk : (World.setCell _ _ _).drew = wk
      rw [hwk] at hBr hG
      clear hwk
      have c : wk.cell? ⟨B, 3, none⟩ = some (.int .u32 (wv s.d)) := by rw [cell_of_row _ _ _ _ _ _ hBr]; rfl
      have z : wk.frozen? ⟨B, 3, none⟩ = false := frozen_of_row _ _ _ _ _ hBr
      have HB' := Lib.hid hBr
      have HG := Lib.hid hG
      clear hBr hG
      go_still_tail 8, (by kernel_rfl)
      change wpList _ _ _ _ _ (World.drew _)
      go_wp2_with fail
      clear c z
      obtain ⟨hBr, hG⟩ := store_step HB'.out HG.out 3 (.int .u32 (wv (s.d + r.d))) ([wV (s.a + r.a), wV (s.b + r.b), wV (s.c + r.c), wV (s.d + r.d), wV s.e, wV s.f, wV s.g, wV s.h] ++ rest) rfl
      clear HB' HG
      generalize hwk : (World.setCell _ _ _).drew = wk
      rw [hwk] at hBr hG
      clear hwk
      have c : wk.cell? ⟨B, 4, none⟩ = some (.int .u32 (wv s.e)) := by rw [cell_of_row _ _ _ _ _ _ hBr]; rfl
      have z : wk.frozen? ⟨B, 4, none⟩ = false := frozen_of_row _ _ _ _ _ hBr
      have HB' := Lib.hid hBr
      have HG := Lib.hid hG
      clear hBr hG
      go_still_tail 8, (by kernel_rfl)
      change wpList _ _ _ _ _ (World.drew _)
      go_wp2_with fail
      clear c z
      obtain ⟨hBr, hG⟩ := store_step HB'.out HG.out 4 (.int .u32 (wv (s.e + r.e))) ([wV (s.a + r.a), wV (s.b + r.b), wV (s.c + r.c), wV (s.d + r.d), wV (s.e + r.e), wV s.f, wV s.g, wV s.h] ++ rest) rfl
      clear HB' HG
      generalize hwk : (World.setCell _ _ _).drew = wk
      rw [hwk] at hBr hG
      clear hwk
      have c : wk.cell? ⟨B, 5, none⟩ = some (.int .u32 (wv s.f)) := by rw [cell_of_row _ _ _ _ _ _ hBr]; rfl
      have z : wk.frozen? ⟨B, 5, none⟩ = false := frozen_of_row _ _ _ _ _ hBr
      have HB' := Lib.hid hBr
      have HG := Lib.hid hG
      clear hBr hG
      go_still_tail 8, (by kernel_rfl)
      change wpList _ _ _ _ _ (World.drew _)
      go_wp2_with fail
      clear c z
      obtain ⟨hBr, hG⟩ := store_step HB'.out HG.out 5 (.int .u32 (wv (s.f + r.f))) ([wV (s.a + r.a), wV (s.b + r.b), wV (s.c + r.c), wV (s.d + r.d), wV (s.e + r.e), wV (s.f + r.f), wV s.g, wV s.h] ++ rest) rfl
      clear HB' HG
      generalize hwk : (World.setCell _ _ _).drew = wk
      rw [hwk] at hBr hG
      clear hwk
      have c : wk.cell? ⟨B, 6, none⟩ = some (.int .u32 (wv s.g)) := by rw [cell_of_row _ _ _ _ _ _ hBr]; rfl
      have z : wk.frozen? ⟨B, 6, none⟩ = false := frozen_of_row _ _ _ _ _ hBr
      have HB' := Lib.hid hBr
      have HG := Lib.hid hG
      clear hBr hG
      go_still_tail 8, (by kernel_rfl)
      change wpList _ _ _ _ _ (World.drew _)
      go_wp2_with fail
      clear c z
      obtain ⟨hBr, hG⟩ := store_step HB'.out HG.out 6 (.int .u32 (wv (s.g + r.g))) ([wV (s.a + r.a), wV (s.b + r.b), wV (s.c + r.c), wV (s.d + r.d), wV (s.e + r.e), wV (s.f + r.f), wV (s.g + r.g), wV s.h] ++ rest) rfl
      clear HB' HG
      generalize hwk : (World.setCell _ _ _).drew = wk
      rw [hwk] at hBr hG
      clear hwk
      have c : wk.cell? ⟨B, 7, none⟩ = some (.int .u32 (wv s.h)) := by rw [cell_of_row _ _ _ _ _ _ hBr]; rfl
      have z : wk.frozen? ⟨B, 7, none⟩ = false := frozen_of_row _ _ _ _ _ hBr
      have HB' := Lib.hid hBr
      have HG := Lib.hid hG
      clear hBr hG
      go_still_tail 8, (by kernel_rfl)
      change wpList _ _ _ _ _ (World.drew _)
      go_wp2_with fail
      clear c z
      obtain ⟨hBr, hG⟩ := store_step HB'.out HG.out 7 (.int .u32 (wv (s.h + r.h))) ([wV (s.a + r.a), wV (s.b + r.b), wV (s.c + r.c), wV (s.d + r.d), wV (s.e + r.e), wV (s.f + r.f), wV (s.g + r.g), wV (s.h + r.h)] ++ rest) rfl
      clear HB' HG
      generalize hwk : (World.setCell _ _ _).drew = wk
      rw [hwk] at hBr hG
      clear hwk
      have HB' := Lib.hid hBr
      have HG := Lib.hid hG
      clear hBr hG
      go_end0
      refine ⟨rfl, ?_, HG.out⟩
      have e : compress s b = s.plus r := by unfold compress; rw [HR.out]
      rw [e]
      exact HB'.out
end Go.Proofs.YtlfpjfhpleociaaDoor.Sha
