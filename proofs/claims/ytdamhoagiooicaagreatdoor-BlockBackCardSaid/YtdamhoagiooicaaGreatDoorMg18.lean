/-
  Texts of this proof joined into one file: TxReadW, HdRead, BlTakeM, BlTakeW, BlReadW, BlLight, BlBytes. What each holds, and under which conditions, its own first sentence tells.
-/
import Derived.Laws.ResultCell
import Derived.IntWalk
import Derived.Test.YtdamhoagiooicaaGreatDoorMg17
import Derived.Test.YtdamhoagiooicaaGreatDoorMg09
import Derived.Test.YtdamhoagiooicaaGreatDoorMg10
import Derived.Test.YtdamhoagiooicaaGreatDoorMg16
import Derived.Test.YtdamhoagiooicaaGreatDoorMg05
import Derived.Test.YtdamhoagiooicaaGreatDoorMg06
import Derived.Test.YtdamhoagiooicaaGreatDoorMg14
import Derived.Test.YtdamhoagiooicaaGreatDoorMg08
import Derived.Test.YtdamhoagiooicaaGreatDoorMg13
/-
  Package tx reads a transaction out of bytes. Nothing that was there turns. Conditions: the bytes lie where the slice says; the errors are there.
-/
namespace Go.Proofs.YtdamhoagiooicaaGreatDoor.Sha
open Go Go.RowKit
theorem readTx_take (bs : List UInt8) (t0 : TTx) (b : List UInt8) (d : Nat) (h : takeTx bs 0 = (t0, b, d)) : readTx bs = if d ≠ 0 then (noTx, d) else if b ≠ [] then (noTx, 2) else (t0, 0) := by
  obtain ⟨p, hp⟩ : ∃ p, txP bs 0 = p := ⟨_, rfl⟩
  obtain ⟨a, r, c⟩ := p
  unfold takeTx at h
  unfold readTx
  rw [hp] at h ⊢
  by_cases hc : c = 0
  · subst hc
    rw [if_pos rfl] at h
    cases h
    rfl
  · rw [if_neg (show ¬ (a, r, c).2.2 = 0 from hc)] at h
    cases h
    rw [if_pos (show (a, b, d).2.2 ≠ 0 from hc), if_pos hc]
/-- What a Reader's bytes are as a transaction. -/
structure TakeIs (bs : List UInt8) (t : TTx) (b : List UInt8) (d : Nat) : Prop where
  eq : takeTx bs 0 = (t, b, d)
theorem results_row_tmp {P : Program} {fn : Func} {p u : Tmp} {ty : TypeId} (h : fn.results = #[.cell p ty, .tmp u]) (tmps : Array Value) (w : World) (g : Nat) (t : TypeId) (cs : Array Value) (fr : Nat × Nat) (d : TypeDesc)
    (hx : tmps.getD p undef = .pointer (some ⟨g, 0, none⟩)) (hg : w.heap[g]? = some (.cells cs t fr)) (hu : P.underlying ty = some d) (hd : (match d with | .struct _ | .array _ _ => true | _ => false) = true) (hi : (P.info? ty).map (·.size) = some cs.size) :
    (results fn tmps).run P w = .ok (.tuple #[.agg cs, tmps.getD u undef]) w := by
  rw [results_cell_tmp h, hx]
  simp [asAddr, Result.andThen, run_loadVar_row (P := P) w g t ty cs fr d hg hu hd hi]
end Go.Proofs.YtdamhoagiooicaaGreatDoor.Sha

/-
  Package head reads a header out of bytes. Nothing that was there turns. Conditions: the bytes lie where the slice says; the errors are there.
-/
namespace Go.Proofs.YtdamhoagiooicaaGreatDoor.Sha
open Go Go.RowKit
theorem readHd_take (bs : List UInt8) (t0 : THd) (b : List UInt8) (d : Nat) (h : takeHd bs 0 = (t0, b, d)) : readHd bs = if d ≠ 0 then (noHd, d) else if b ≠ [] then (noHd, 2) else (t0, 0) := by
  obtain ⟨p, hp⟩ : ∃ p, hdP bs 0 = p := ⟨_, rfl⟩
  obtain ⟨a, r, c⟩ := p
  unfold takeHd at h
  unfold readHd
  rw [hp] at h ⊢
  by_cases hc : c = 0
  · subst hc
    rw [if_pos rfl] at h
    cases h
    rfl
  · rw [if_neg (show ¬ (a, r, c).2.2 = 0 from hc)] at h
    cases h
    rw [if_pos (show (a, b, d).2.2 ≠ 0 from hc), if_pos hc]
/-- What bytes are as a header. -/
structure HRead (bs : List UInt8) (t : THd) (c : Nat) : Prop where
  eq : readHd bs = (t, c)
/-- What a Reader's bytes are as a header. -/
structure HTake (bs : List UInt8) (t : THd) (b : List UInt8) (d : Nat) : Prop where
  eq : takeHd bs 0 = (t, b, d)
theorem takeHd_ok {bs b : List UInt8} {c d : Nat} {t : THd} (h : takeHd bs c = (t, b, d)) : HdOk t := by
  obtain ⟨x1, b1, d1, h1⟩ : ∃ x b d, takeL 4 bs c = (x, b, d) := ⟨_, _, _, rfl⟩
  obtain ⟨x2, b2, d2, h2⟩ : ∃ x b d, takeL 32 b1 d1 = (x, b, d) := ⟨_, _, _, rfl⟩
  obtain ⟨x3, b3, d3, h3⟩ : ∃ x b d, takeL 32 b2 d2 = (x, b, d) := ⟨_, _, _, rfl⟩
  obtain ⟨x4, b4, d4, h4⟩ : ∃ x b d, takeL 4 b3 d3 = (x, b, d) := ⟨_, _, _, rfl⟩
  obtain ⟨x5, b5, d5, h5⟩ : ∃ x b d, takeL 4 b4 d4 = (x, b, d) := ⟨_, _, _, rfl⟩
  obtain ⟨x6, b6, d6, h6⟩ : ∃ x b d, takeL 4 b5 d5 = (x, b, d) := ⟨_, _, _, rfl⟩
  unfold takeHd at h
  rw [hdP_laid bs x1 b1 x2 b2 x3 b3 x4 b4 x5 b5 x6 b6 c d1 d2 d3 d4 d5 d6 h1 h2 h3 h4 h5 h6] at h
  split at h
  · obtain rfl := (Prod.mk.inj h).1
    exact ⟨le4' h1, pad32 h2, pad32 h3, le4' h4, le4' h5, le4' h6⟩
  · obtain rfl := (Prod.mk.inj h).1
    exact hdZ_ok
theorem HRead.ok {bs : List UInt8} {c : Nat} {t : THd} (h : HRead bs t c) : HdOk t := by
  obtain ⟨t0, b, d, ht⟩ : ∃ t b d, takeHd bs 0 = (t, b, d) := by
    generalize takeHd bs 0 = p
    exact ⟨p.1, p.2.1, p.2.2, rfl⟩
  have e := h.eq
  rw [readHd_take bs t0 b d ht] at e
  have o := takeHd_ok ht
  split at e
  · obtain rfl := (Prod.mk.inj e).1
    exact hdZ_ok
  · split at e
    · obtain rfl := (Prod.mk.inj e).1
      exact hdZ_ok
    · obtain rfl := (Prod.mk.inj e).1
      exact o
theorem hread_pair (bs : List UInt8) : ∃ u c, HRead bs u c := by
  obtain ⟨u, c, h⟩ : ∃ u c, readHd bs = (u, c) := by
    generalize readHd bs = p
    exact ⟨p.1, p.2, rfl⟩
  exact ⟨u, c, ⟨h⟩⟩
end Go.Proofs.YtdamhoagiooicaaGreatDoor.Sha

/-
  A block read from a Reader, whether or not an error is met between; what stands while one is read. No conditions beyond those that each states.
-/
namespace Go.Proofs.YtdamhoagiooicaaGreatDoor.Sha
open Go Go.RowKit
theorem still_noErr {α : Type} {z : α} {p : Par α} (h : Still p) : Still (noErr z p) := fun bs c hc => by
  have e := h bs c hc
  unfold noErr
  split
  · exact e
  · exact e
theorem still_hd : Still hdP := (still_le 4).andThen fun _ => (still_take 32).andThen fun _ => (still_take 32).andThen fun _ => (still_le 4).andThen fun _ => (still_le 4).andThen fun _ => (still_le 4).map _
theorem still_tx : Still txP := (still_le 4).andThen fun _ => (still_num 50).andThen fun n => (still_manyP still_in n).andThen fun _ => (still_num 50).andThen fun m => (still_manyP still_out m).andThen fun _ => (still_le 4).map _
theorem still_takeTx : Still takeTx := takeTx_eq ▸ still_noErr still_tx
/-- A block, whatever is met between. -/
def blkS : Par TBlk := thenP takeHd fun h => thenP (numL 200) fun n => mapP (fun l => ⟨h, l⟩) (manyS takeTx n)
theorem sim_blk : Sim blkP blkS :=
  (Sim.refl _).andThen (fun _ => (Sim.refl _).andThen (fun n => (sim_many still_takeTx n).map _) (fun n => (still_manyP still_takeTx n).map _) (fun n => (still_manyS still_takeTx n).map _))
    (fun _ => (still_num 200).andThen fun n => (still_manyP still_takeTx n).map _) (fun _ => (still_num 200).andThen fun n => (still_manyS still_takeTx n).map _)
theorem readBlk_S (bs : List UInt8) (x : TBlk) (b : List UInt8) (d : Nat) (h : blkS bs 0 = (x, b, d)) : readBlk bs = if d ≠ 0 then (noBlk, d) else if b ≠ [] then (noBlk, 2) else (x, 0) := by
  obtain ⟨e1, e2⟩ := sim_blk bs 0
  unfold readBlk
  rw [h] at e1 e2
  by_cases hd : d = 0
  · subst hd
    rw [e2 (by rw [e1])]
  · rw [e1]
    simp only [if_pos hd]
theorem less_noErr {α : Type} {z : α} {p : Par α} (h : Less p) : Less (noErr z p) := fun bs c => by
  have e := h bs c
  unfold noErr
  split <;> exact e
theorem less_manyP {α : Type} {p : Par α} (h : Less p) (hs : Still p) (n : Nat) : Less (manyP p n) := fun bs c => by
  rw [(sim_many hs n bs c).1]
  exact less_manyS h n bs c
theorem less_tx : Less txP := (less_le 4).andThen fun _ => (less_num 50).andThen fun n => (less_manyP less_in still_in n).andThen fun _ => (less_num 50).andThen fun m => (less_manyP less_out still_out m).andThen fun _ => (less_le 4).map _
theorem less_takeTx : Less takeTx := takeTx_eq ▸ less_noErr less_tx
theorem less_hd : Less hdP := (less_le 4).andThen fun _ => (less_take 32).andThen fun _ => (less_take 32).andThen fun _ => (less_le 4).andThen fun _ => (less_le 4).andThen fun _ => (less_le 4).map _
theorem less_takeHd : Less takeHd := takeHd_eq ▸ less_noErr less_hd
section
variable {ops : Array Oper} {rest : List Oper} {op : Oper} {a : Act} {w : World} {Q : Exit → Act → World → Prop} {g : Nat} {h : THd} {tv : Value}
theorem st_blhead (hgd : op.guard = none) (x y : Operand) (ho : op.op = .store 26 x y) (hx : a.eval x = .pointer (some ⟨g, 0, none⟩)) (p : THd) (hp : HdOk p) (hy : a.eval y = .agg (hdL p).toArray) (hh : HdOk h) (k : BlBox w g h tv)
    (hK : ∀ w', BlBox w' g p tv → w.grownBy w' (some g) → wpList Tryz.prog ops Q rest (a.put op.dst undef) w') : wpList Tryz.prog ops Q (op :: rest) a w := by
  refine wpList_store_part hgd 26 x y ho g 0 [] (hdL h) [tv] (hdL p) 29 (.agg (hdL p).toArray) hx hy rfl rfl (by rw [hdL_length hh, hdL_length hp]) (by rw [k.row]; simp [blL]) (by rw [hdL_length hp]; kernel_rfl) (fun u hu => hdL_one' p u hu) ?_
  intro w' q1 q2
  exact hK w' ⟨by rw [q1]; simp [blL]⟩ q2
end
/-- An element's two slices read so. -/
def PE (e : ETx) (W : World) : Prop := InsAt W e.iv e.t.ins ∧ OutsAt W e.ov e.t.outs
/-- Which blocks are which: the Reader's r, its bytes' m, the block's box g2; from base on: the transactions. -/
structure TkK (m r base g2 : Nat) (w : World) : Prop where
  rb : r < base
  mb : m < base
  gb : g2 < base
  wb : w.heap.size ≤ base
  wg : w.heap.size ≤ g2
  nr : g2 ≠ r
  nm : m ≠ g2
/-- While a block is read: the Reader has b left; the box holds the header and the row vb; the row of one's own is v. -/
structure TkB (E : Nat → Addr) (m r base g2 : Nat) (h : THd) (w : World) (b : List UInt8) (d : Nat) (vb v : Value) (es : List ETx) (W : World) : Prop where
  rd : RdI E m W r b d
  gr : w.grownBy W (some r)
  box : BlBox W g2 h vb
  row : RowT PE base W v es
  low : ∀ e ∈ es, base ≤ e.lo
  lb : base ≤ W.heap.size
/-- One that was taken, to be put behind. -/
structure El (base : Nat) (v : Value) (es : List ETx) (e : ETx) (W : World) : Prop where
  ok : TxOk e.t
  hi : e.hi ≤ W.heap.size
  st : Sty (fun k => e.lo ≤ k ∧ k < e.hi) W (PE e)
  lo : base ≤ e.lo
  aft : ∀ a ∈ es, a.hi ≤ e.lo
  out : ∀ q, v.ownBlock = some q → q < e.lo
section
variable {E : Nat → Addr} {m r base g2 : Nat} {hd : THd} {w W W' : World} {b b' : List UInt8} {d d' : Nat} {vb v v' u : Value} {es : List ETx} {e : ETx} {t : TTx}
theorem El.below (h : El base v es e W) (hb : Below W.heap.size W W') : El base v es e W' := ⟨h.ok, Nat.le_trans h.hi hb.size, h.st.on (Kps.new hb), h.lo, h.aft, h.out⟩
theorem El.one (h : El base v es e W) : ∀ u ∈ e.cells, u.oneCell' = true := by
  have k := tx_one h.st.now.1 h.st.now.2
  rw [Array.all_eq_true_iff_forall_mem] at k
  exact fun u hu => k u (by simpa [ETx.cells] using hu)
theorem TkB.below (h : TkB E m r base g2 hd w b d vb v es W) (hb : Below W.heap.size W W') : TkB E m r base g2 hd w b d vb v es W' :=
  ⟨h.rd.below hb, grownBy_trans h.gr (grownBy_of_below hb _), h.box.below hb, h.row.keep hb, h.low, Nat.le_trans h.lb hb.size⟩
theorem TkB.take (h : TkB E m r base g2 hd w b d vb v es W) (K : TkK m r base g2 w) (rd : RdI E m W' r b' d') (g : W.grownBy W' (some r)) (st : Sty (fun k => W.heap.size ≤ k) W' (fun U => TxAt U u t)) :
    ∃ e : ETx, e.t = t ∧ u = .agg e.cells.toArray ∧ TkB E m r base g2 hd w b' d' vb v es W' ∧ El base v es e W' := by
  obtain ⟨hok, iv, ov, hu, _, _⟩ := st.now
  refine ⟨⟨t, iv, ov, W.heap.size, W'.heap.size⟩, rfl, hu, ⟨rd, grownBy_trans h.gr g, h.box.far g (fun e => K.nr (Option.some.inj e).symm), h.row.far g (own_far h.row.own K.rb) (fun k hk e he => .inl ?_), h.low, Nat.le_trans h.lb g.size⟩, ⟨hok, Nat.le_refl _, st.imp (fun k hk hl => ⟨hl, hk⟩) (fun U hU => ?_), h.lb, fun a ha => (h.row.ok a ha).2.1, fun q hq => (h.row.own.lt q hq).2⟩⟩
  · have := Option.some.inj hk
    have := h.low e he
    have := K.rb
    omega
  · obtain ⟨_, iv', ov', e', h1, h2⟩ := hU
    rw [hu] at e'
    have e' : txL t iv ov = txL t iv' ov' := by simpa using e'
    simp only [txL, List.cons.injEq] at e'
    obtain ⟨_, rfl, rfl, _⟩ := e'
    exact ⟨h1, h2⟩
theorem TkB.push (h : TkB E m r base g2 hd w b d vb v es W) (K : TkK m r base g2 w) (he : El base v es e W) (ao : W'.ownsRow base 66 4 v' (es.length + 1) (esL es ++ e.cells)) (ag : W.grownBy W' v.ownBlock) (at' : v'.ownBlock = v.ownBlock ∨ v'.ownBlock = some W.heap.size) :
    TkB E m r base g2 hd w b d vb v' (es ++ [e]) W' := by
  have hq : ∀ q, v.ownBlock = some q → base ≤ q := fun q hq => (h.row.own.lt q hq).1
  refine ⟨rd_own h.rd ag hq K.rb K.mb, gr_own h.gr ag hq K.wb, ⟨row_own h.box.row ag hq K.gb⟩, h.row.push he.ok he.hi he.st he.aft (fun q hq => .inl (he.out q hq)) ao ag at', fun a ha => ?_, Nat.le_trans h.lb ag.size⟩
  rcases List.mem_append.1 ha with ha | ha
  · exact h.low a ha
  · rw [List.mem_singleton.1 ha]
    exact he.lo
theorem TkB.store (h : TkB E m r base g2 hd w b d vb v es W) (K : TkK m r base g2 w) (hb : BlBox W' g2 hd v) (g : W.grownBy W' (some g2)) : TkB E m r base g2 hd w b d v v es W' :=
  ⟨h.rd.grown g K.nr (fun _ => K.nm), gr_low h.gr g K.wg, hb, h.row.far g (own_far h.row.own K.gb) (fun k hk e he => .inl (by
    have := Option.some.inj hk
    have := h.low e he
    have := K.gb
    omega)), h.low, Nat.le_trans h.lb g.size⟩
theorem TkB.done (h : TkB E m r base g2 hd w b d vb v es W) (K : TkK m r base g2 w) (hh : HdOk hd) : Sty (fun k => w.heap.size ≤ k) W (fun U => BlkAt U (.agg (blL hd v).toArray) ⟨hd, es.map (·.t)⟩) := fun U hU =>
  ⟨hh, v, rfl, TxsAt.of_own (own_kps h.row.own hU (fun k hk => Nat.le_trans K.wb hk)) (fun e he => by
    have p := (h.row.ok e he).2.2 U (hU.mono fun k _ hk => by
      have := h.low e he
      have := K.wb
      have := hk.1
      show w.heap.size ≤ k
      omega)
    exact ⟨(h.row.ok e he).1, p.1, p.2⟩)⟩
end
def BkPost (E : Nat → Addr) (m : Nat) (x : TBlk) (b : List UInt8) (d r : Nat) (w : World) (e : Ending) (w' : World) : Prop :=
  ∃ v', e = .returned v' ∧ RdI E m w' r b d ∧ w.grownBy w' (some r) ∧ Sty (fun k => w.heap.size ≤ k) w' (fun W => BlkAt W v' x)
def BkInv (E : Nat → Addr) (m r n : Nat) (b2 : List UInt8) (d2 base g2 : Nat) (hd : THd) (w : World) (vi : Value) (wr : World) : Prop :=
  ∃ (k : Nat) (es : List ETx) (v : Value) (b : List UInt8) (d : Nat), k ≤ n ∧ vi = .int .u64 k ∧ manyS takeTx k b2 d2 = (es.map (·.t), b, d) ∧ TkB E m r base g2 hd w b d v v es wr ∧ b.length ≤ 70368744177664
end Go.Proofs.YtdamhoagiooicaaGreatDoor.Sha

/-
  Package block takes a block from a Reader. Nothing that was there turns but the Reader. Conditions: the Reader stands as it should; the errors are there.
-/
namespace Go.Proofs.YtdamhoagiooicaaGreatDoor.Sha
open Go Go.RowKit
set_option maxHeartbeats 4000000 in
set_option maxRecDepth 100000 in
theorem take_blk (E : Nat → Addr) (m : Nat) (bs : List UInt8) (c r : Nat) (w : World) (hE : ErR w E r) (hr : RdI E m w r bs c) (hm : m < w.heap.size) (hl : bs.length ≤ 70368744177664) (x : TBlk) (bz : List UInt8) (dz : Nat) (ht : blkS bs c = (x, bz, dz)) :
    Calls Tryz.prog 34 #[.pointer (some ⟨r, 0, none⟩)] w (BkPost E m x bz dz r w) := by
  obtain ⟨hd, b1, d1, h1⟩ : ∃ x b d, takeHd bs c = (x, b, d) := by
    generalize takeHd bs c = p
    exact ⟨p.1, p.2.1, p.2.2, rfl⟩
  obtain ⟨n, b2, d2, h2⟩ : ∃ x b d, numL 200 b1 d1 = (x, b, d) := by
    generalize numL 200 b1 d1 = p
    exact ⟨p.1, p.2.1, p.2.2, rfl⟩
  obtain ⟨l, b3, d3, h3⟩ : ∃ x b d, manyS takeTx n b2 d2 = (x, b, d) := by
    generalize manyS takeTx n b2 d2 = p
    exact ⟨p.1, p.2.1, p.2.2, rfl⟩
  obtain ⟨rfl, rfl, rfl⟩ : x = ⟨hd, l⟩ ∧ bz = b3 ∧ dz = d3 := by
    simp only [blkS, thenP, mapP, h1, h2, h3, Prod.mk.injEq] at ht
    exact ⟨ht.1.symm, ht.2.1.symm, ht.2.2.symm⟩
  have bn : n ≤ 200 := by have := numL_most 200 b1 d1; rw [h2] at this; exact this
  have hb2 : b2.length ≤ 70368744177664 := by
    have q1 := less_takeHd bs c
    have q2 := less_num 200 b1 d1
    rw [h1] at q1
    rw [h2] at q2
    exact Nat.le_trans q2 (Nat.le_trans q1 hl)
  have HH := Lib.hid (takeHd_ok h1)
  have BL2 := Lib.hid hb2
  have HE := Lib.hid hE
  have HR := Lib.hid hr
  have HM := Lib.hid hm
  have T1 := Lib.hid h1
  have T2 := Lib.hid h2
  have T3 := Lib.hid h3
  obtain ⟨i0, hi, hz0, hz1, hz2⟩ := info_parts info_txc
  clear hE hr hm h1 h2 h3 ht hl hb2
  go_enter Tryz.func34, Tryz.ntmps34
  go_upto_region 1 with fail
  rw [bl_zero]
  have f0 := heap_alloc_new w (.cells (blL hdZ (.slice none 0 0)).toArray 29 (0, 0))
  have bb := (Below.refl w.heap.size w).alloc (Nat.le_refl _) (.cells (blL hdZ (.slice none 0 0)).toArray 29 (0, 0))
  have hsz : (w.alloc (.cells (blL hdZ (.slice none 0 0)).toArray 29 (0, 0))).heap.size = w.heap.size + 1 := by simp
  generalize hw0 : World.alloc _ _ = w0
  have e0 : w.alloc (.cells (blL hdZ (.slice none 0 0)).toArray 29 (0, 0)) = w0 := hw0
  rw [e0] at f0 bb hsz
  obtain ⟨g2, hg2⟩ : ∃ g2, g2 = w.heap.size := ⟨_, rfl⟩
  obtain ⟨base, hbase⟩ : ∃ base, base = w.heap.size + 1 := ⟨_, rfl⟩
  have hrl := HR.out.lt
  have hml := HM.out
  have CK : Hid (TkK m r base g2 w) := ⟨by omega, by omega, by omega, by omega, by omega, by omega, by omega⟩
  rw [← hg2] at f0 ⊢
  have BX : Hid (BlBox w0 g2 hdZ (.slice none 0 0)) := ⟨f0⟩
  have G0 : Hid (w.grownBy w0 (some r)) := grownBy_of_below bb _
  have R0 := Lib.hid (HR.out.below bb)
  have LB0 : Hid (base ≤ w0.heap.size) := by show _ ≤ _; omega
  have ML0 : Hid (m < w0.heap.size) := by show _ < _; omega
  clear f0 bb hsz hw0 e0 hg2 hbase hrl hml
  go_wp2_with fail
  refine (take_hd E m bs c r w0 (HE.out.grown G0.out) R0.out ML0.out hd b1 d1 T1.out).mono ?_
  rintro e w1 ⟨rfl, i1, g1⟩
  have BX := Lib.hid (BX.out.far g1 (fun e => CK.out.nr (Option.some.inj e).symm))
  have R1 := Lib.hid i1
  have G1 := Lib.hid (grownBy_trans G0.out g1)
  have LB1 : Hid (base ≤ w1.heap.size) := Nat.le_trans LB0.out g1.size
  clear i1 g1 G0 R0 LB0 ML0
  go_upto_region 2 with ((with_reducible show wpList _ _ _ _ _ _); refine st_blhead (g := g2) (h := hdZ) (tv := .slice none 0 0) rfl (.tmp 5) (.tmp 4) rfl rfl hd HH.out rfl hdZ_ok BX.out ?_; intro w2 q1 q2; have BX2 : Hid (BlBox w2 g2 hd (.slice none 0 0)) := q1; have R2 := Lib.hid (R1.out.grown q2 CK.out.nr (fun _ => CK.out.nm)); have G2 := Lib.hid (gr_low G1.out q2 CK.out.wg); have LB2 : Hid (base ≤ w2.heap.size) := Nat.le_trans LB1.out q2.size; clear q1 q2; go_frame)
  clear BX R1 G1 LB1
  have NA : Hid (Calls Tryz.prog 75 #[.pointer (some ⟨r, 0, none⟩), .int .u64 200] w2 (NumPost E m n b2 d2 r w2)) := by
    have := num_any E m 200 b1 d1 r w2 (HE.out.grown G2.out) R2.out
    rw [T2.out] at this
    exact this
  go_wp2_with fail
  refine NA.out.mono ?_
  rintro e w3 ⟨rfl, i1, g1⟩
  have ST : Hid (TkB E m r base g2 hd w b2 d2 (.slice none 0 0) (.slice none 0 0) [] w3) := ⟨i1, grownBy_trans G2.out g1, BX2.out.far g1 (fun e => CK.out.nr (Option.some.inj e).symm), RowT.nil, fun e he => absurd he (by simp), Nat.le_trans LB2.out g1.size⟩
  clear i1 g1 NA BX2 R2 G2 LB2
  go_wp2_with fail
  go_loopw [8] (fun vi wr => BkInv E m r n b2 d2 base g2 hd w vi wr) (fun i _ => n - (intOf i).toNat)
  case atStart => exact ⟨0, [], _, b2, d2, by omega, rfl, rfl, ST.out, BL2.out⟩
  case round =>
    clear ST
    obtain ⟨k, es, v, b, d, hk, rfl, hms, hst, hbl⟩ := hrel
    have HMS := Lib.hid hms
    have ST := Lib.hid hst
    have BL := Lib.hid hbl
    have LL : Hid (es.length ≤ 200) := by
      show _ ≤ _
      have := manyS_length takeTx k b2 d2
      rw [hms] at this
      simp only [List.length_map] at this
      omega
    clear hms hst hbl
    by_cases hlt : k < n
    · obtain ⟨t, b', d', hx⟩ : ∃ x b' d', takeTx b d = (x, b', d') := by
        generalize takeTx b d = p
        exact ⟨p.1, p.2.1, p.2.2, rfl⟩
      have HX := Lib.hid hx
      have LB : Hid (b'.length ≤ 70368744177664) := Nat.le_trans (by have := less_takeTx b d; rw [hx] at this; exact this) BL.out
      have q0 : (k : Int) < (n : Int) := by omega
      have wk : IntKind.u64.wrap ((k : Int) + 1) = (k : Int) + 1 := u64_stays (by omega)
      clear hx
      go_wp2_with fail
      refine wp_region_held_drew (S := (fun w' => True)) (by kernel_rfl) (trivial) (fun hHeld => ?_)
      have ST := Lib.hid (ST.out.below (Below.drew (Below.refl _ _)))
      generalize hwd : wr.drew = wd at ST hHeld ⊢
      clear hwd
      refine held_take (i := 0) (v := (.pointer (some ⟨g2, 68, none⟩))) rfl (by kernel_rfl) (by kernel_rfl) (by kernel_rfl) (fun _ _ _ h => h) (Or.inl ⟨by rfl, fun w' _ => by kernel_rfl⟩) hHeld ?_
      go_frame
      refine held_take (i := 2) (v := (.pointer (some ⟨r, 0, none⟩))) rfl (by kernel_rfl) (by kernel_rfl) (by kernel_rfl) (fun _ _ _ h => h) (Or.inl ⟨by rfl, fun w' _ => by kernel_rfl⟩) hHeld ?_
      go_frame
      refine wpAnyH_ready (rs := [1, 3]) (by kernel_rfl) (by simp) (held_cons rfl (fun K hK => ?_) (held_cons rfl (fun K hK => ?_) AllReadyH.nil))
      · skip
        rw [if_pos (by rfl)]
        refine wp_load_cell 27 (.tmp 10) rfl g2 68 rfl v _ (ST.out.box.txs HH.out) Tryz.underlying27 rfl ?_
        go_frame
        refine hK.out _ _ trivial (fun hHeld => ?_)
        clear hK K
        refine wpAnyH_ready (rs := [3]) (by kernel_rfl) (by simp) (held_cons rfl (fun K hK => ?_) AllReadyH.nil)
        go_simp
        refine (take_tx E m b d r _ (HE.out.grown ST.out.gr) ST.out.rd (Nat.lt_of_lt_of_le CK.out.mb ST.out.lb) BL.out t b' d' HX.out).mono ?_
        rintro e v2 ⟨u, rfl, i1, g1, ty⟩
        obtain ⟨el, rfl, rfl, st, he⟩ := ST.out.take CK.out i1 g1 ty
        have EL := Lib.hid he
        have ST := Lib.hid st
        have LX : Hid (el.cells.length = 4) := rfl
        have bb := trivial
        clear st he i1 g1 ty
        have hv2 := trivial
        clear bb hHeld
        go_wp2_with fail
        refine hK.out _ _ hv2 (fun hHeld => ?_)
        clear hK K hv2
        refine wpAnyH_ready (rs := [4]) (by kernel_rfl) (by simp) (held_cons rfl (fun K hK => ?_) AllReadyH.nil)
        rw [if_pos (by rfl)]
        refine wp_slice_one 27 66 (.tmp 13) rfl (el.cells) rfl Tryz.underlying27 i0 _ hi hz0 (by rw [hz1, LX.out]) (by rw [LX.out]; omega) (by rw [LX.out]; omega) ?_
        have nf := heap_alloc_new v2 (.cells (el.cells).toArray 66 (0, 0))
        have bb := (Below.refl v2.heap.size v2).alloc (Nat.le_refl _) (.cells (el.cells).toArray 66 (0, 0))
        obtain ⟨gv3, hgv3⟩ : ∃ g, g = v2.heap.size := ⟨_, rfl⟩
        generalize hqv3 : World.alloc _ _ = v3
        have ev3 : v2.alloc (.cells (el.cells).toArray 66 (0, 0)) = v3 := hqv3
        rw [ev3] at nf bb
        rw [← hgv3] at nf ⊢
        have NF := Lib.hid nf
        have EL := Lib.hid (EL.out.below bb)
        have ST := Lib.hid (ST.out.below bb)
        have hv3 := trivial
        clear nf bb hqv3 ev3 hgv3 hHeld
        go_frame
        refine hK.out _ _ hv3 (fun hHeld => ?_)
        clear hK K hv3
        refine wpAnyH_ready (rs := [5]) (by kernel_rfl) (by simp) (held_cons rfl (fun K hK => ?_) AllReadyH.nil)
        rw [if_pos (by rfl)]
        refine wp_append_row v3 (.tmp 11) (.tmp 14) 27 rfl base 66 i0 (.agg [nV 0, .slice none 0 0, .slice none 0 0, nV 0].toArray) 4 64 Tryz.underlying27 hi hz0 hz1 hz2 (by kernel_rfl) (by decide) v es.length (esL es) rfl ST.out.row.own ⟨gv3, 0, none⟩ 1 1 el.cells rfl (by rw [LX.out]) (fun j u hj => by rw [Addr.add_mid]; exact range_of_box NF.out j u hj) EL.out.one (by have := LL.out; unfold maxLen; omega) (by have := LL.out; omega) ST.out.lb ?_
        intro xv4 v4 q1 q2 q3
        have VO := Lib.hid (own_one q1)
        have ST := Lib.hid (ST.out.push CK.out EL.out q1 q2 q3)
        clear q1 q2 q3
        go_frame
        refine hK.out _ _ trivial (fun hHeld => ?_)
        clear hK K
        refine held_take (i := 6) (v := (.pointer (some ⟨g2, 68, none⟩))) rfl (by kernel_rfl) (by kernel_rfl) (by kernel_rfl) (fun _ _ _ h => h) (Or.inl ⟨by rfl, fun w' _ => by kernel_rfl⟩) hHeld ?_
        go_frame
        refine wpAnyH_ready (rs := [7]) (by kernel_rfl) (by simp) (held_cons rfl (fun K hK => ?_) AllReadyH.nil)
        rw [if_pos (by rfl)]
        refine wp_store_part 27 (.tmp 16) (.tmp 15) rfl g2 68 (hdL hd) [v] [] [xv4] 29 xv4 rfl rfl (cells_one VO.out) (hdL_length HH.out) rfl (by rw [ST.out.box.row]; simp [blL]) (by kernel_rfl) (one_mem VO.out) ?_
        intro v5 q1 q2
        have ST := Lib.hid (ST.out.store CK.out ⟨by rw [q1]; simp [blL]⟩ q2)
        clear q1 q2
        go_frame
        refine hK.out _ _ trivial (fun hHeld => ?_)
        clear hK K
        refine wpAnyH_done (by kernel_rfl) ?_ _
        clear hHeld
        go_wp2_with fail
        go_roundw
        case rel => exact ⟨k + 1, es ++ [el], xv4, b', d', by omega, by go_num, by rw [manyS, HMS.out, HX.out, List.map_append, List.map_singleton], ST.out, LB.out⟩
        case measure => simp [intOf]; omega
      · skip
        go_simp
        refine (take_tx E m b d r _ (HE.out.grown ST.out.gr) ST.out.rd (Nat.lt_of_lt_of_le CK.out.mb ST.out.lb) BL.out t b' d' HX.out).mono ?_
        rintro e v6 ⟨u, rfl, i1, g1, ty⟩
        obtain ⟨el, rfl, rfl, st, he⟩ := ST.out.take CK.out i1 g1 ty
        have EL := Lib.hid he
        have ST := Lib.hid st
        have LX : Hid (el.cells.length = 4) := rfl
        have bb := trivial
        clear st he i1 g1 ty
        have hv6 := trivial
        clear bb hHeld
        go_wp2_with fail
        refine hK.out _ _ hv6 (fun hHeld => ?_)
        clear hK K hv6
        refine wpAnyH_ready (rs := [1, 4]) (by kernel_rfl) (by simp) (held_cons rfl (fun K hK => ?_) (held_cons rfl (fun K hK => ?_) AllReadyH.nil))
        · skip
          rw [if_pos (by rfl)]
          refine wp_load_cell 27 (.tmp 10) rfl g2 68 rfl v _ (ST.out.box.txs HH.out) Tryz.underlying27 rfl ?_
          go_frame
          refine hK.out _ _ trivial (fun hHeld => ?_)
          clear hK K
          refine wpAnyH_ready (rs := [4]) (by kernel_rfl) (by simp) (held_cons rfl (fun K hK => ?_) AllReadyH.nil)
          rw [if_pos (by rfl)]
          refine wp_slice_one 27 66 (.tmp 13) rfl (el.cells) rfl Tryz.underlying27 i0 _ hi hz0 (by rw [hz1, LX.out]) (by rw [LX.out]; omega) (by rw [LX.out]; omega) ?_
          have nf := heap_alloc_new v6 (.cells (el.cells).toArray 66 (0, 0))
          have bb := (Below.refl v6.heap.size v6).alloc (Nat.le_refl _) (.cells (el.cells).toArray 66 (0, 0))
          obtain ⟨gv8, hgv8⟩ : ∃ g, g = v6.heap.size := ⟨_, rfl⟩
          generalize hqv8 : World.alloc _ _ = v8
          have ev8 : v6.alloc (.cells (el.cells).toArray 66 (0, 0)) = v8 := hqv8
          rw [ev8] at nf bb
          rw [← hgv8] at nf ⊢
          have NF := Lib.hid nf
          have EL := Lib.hid (EL.out.below bb)
          have ST := Lib.hid (ST.out.below bb)
          have hv8 := trivial
          clear nf bb hqv8 ev8 hgv8 hHeld
          go_frame
          refine hK.out _ _ hv8 (fun hHeld => ?_)
          clear hK K hv8
          refine wpAnyH_ready (rs := [5]) (by kernel_rfl) (by simp) (held_cons rfl (fun K hK => ?_) AllReadyH.nil)
          rw [if_pos (by rfl)]
          refine wp_append_row v8 (.tmp 11) (.tmp 14) 27 rfl base 66 i0 (.agg [nV 0, .slice none 0 0, .slice none 0 0, nV 0].toArray) 4 64 Tryz.underlying27 hi hz0 hz1 hz2 (by kernel_rfl) (by decide) v es.length (esL es) rfl ST.out.row.own ⟨gv8, 0, none⟩ 1 1 el.cells rfl (by rw [LX.out]) (fun j u hj => by rw [Addr.add_mid]; exact range_of_box NF.out j u hj) EL.out.one (by have := LL.out; unfold maxLen; omega) (by have := LL.out; omega) ST.out.lb ?_
          intro xv9 v9 q1 q2 q3
          have VO := Lib.hid (own_one q1)
          have ST := Lib.hid (ST.out.push CK.out EL.out q1 q2 q3)
          clear q1 q2 q3
          go_frame
          refine hK.out _ _ trivial (fun hHeld => ?_)
          clear hK K
          refine held_take (i := 6) (v := (.pointer (some ⟨g2, 68, none⟩))) rfl (by kernel_rfl) (by kernel_rfl) (by kernel_rfl) (fun _ _ _ h => h) (Or.inl ⟨by rfl, fun w' _ => by kernel_rfl⟩) hHeld ?_
          go_frame
          refine wpAnyH_ready (rs := [7]) (by kernel_rfl) (by simp) (held_cons rfl (fun K hK => ?_) AllReadyH.nil)
          rw [if_pos (by rfl)]
          refine wp_store_part 27 (.tmp 16) (.tmp 15) rfl g2 68 (hdL hd) [v] [] [xv9] 29 xv9 rfl rfl (cells_one VO.out) (hdL_length HH.out) rfl (by rw [ST.out.box.row]; simp [blL]) (by kernel_rfl) (one_mem VO.out) ?_
          intro v10 q1 q2
          have ST := Lib.hid (ST.out.store CK.out ⟨by rw [q1]; simp [blL]⟩ q2)
          clear q1 q2
          go_frame
          refine hK.out _ _ trivial (fun hHeld => ?_)
          clear hK K
          refine wpAnyH_done (by kernel_rfl) ?_ _
          clear hHeld
          go_wp2_with fail
          go_roundw
          case rel => exact ⟨k + 1, es ++ [el], xv9, b', d', by omega, by go_num, by rw [manyS, HMS.out, HX.out, List.map_append, List.map_singleton], ST.out, LB.out⟩
          case measure => simp [intOf]; omega
        · skip
          rw [if_pos (by rfl)]
          refine wp_slice_one 27 66 (.tmp 13) rfl (el.cells) rfl Tryz.underlying27 i0 _ hi hz0 (by rw [hz1, LX.out]) (by rw [LX.out]; omega) (by rw [LX.out]; omega) ?_
          have nf := heap_alloc_new v6 (.cells (el.cells).toArray 66 (0, 0))
          have bb := (Below.refl v6.heap.size v6).alloc (Nat.le_refl _) (.cells (el.cells).toArray 66 (0, 0))
          obtain ⟨gv11, hgv11⟩ : ∃ g, g = v6.heap.size := ⟨_, rfl⟩
          generalize hqv11 : World.alloc _ _ = v11
          have ev11 : v6.alloc (.cells (el.cells).toArray 66 (0, 0)) = v11 := hqv11
          rw [ev11] at nf bb
          rw [← hgv11] at nf ⊢
          have NF := Lib.hid nf
          have EL := Lib.hid (EL.out.below bb)
          have ST := Lib.hid (ST.out.below bb)
          have hv11 := trivial
          clear nf bb hqv11 ev11 hgv11 hHeld
          go_frame
          refine hK.out _ _ hv11 (fun hHeld => ?_)
          clear hK K hv11
          refine wpAnyH_ready (rs := [1]) (by kernel_rfl) (by simp) (held_cons rfl (fun K hK => ?_) AllReadyH.nil)
          rw [if_pos (by rfl)]
          refine wp_load_cell 27 (.tmp 10) rfl g2 68 rfl v _ (ST.out.box.txs HH.out) Tryz.underlying27 rfl ?_
          go_frame
          refine hK.out _ _ trivial (fun hHeld => ?_)
          clear hK K
          refine wpAnyH_ready (rs := [5]) (by kernel_rfl) (by simp) (held_cons rfl (fun K hK => ?_) AllReadyH.nil)
          rw [if_pos (by rfl)]
          refine wp_append_row v11 (.tmp 11) (.tmp 14) 27 rfl base 66 i0 (.agg [nV 0, .slice none 0 0, .slice none 0 0, nV 0].toArray) 4 64 Tryz.underlying27 hi hz0 hz1 hz2 (by kernel_rfl) (by decide) v es.length (esL es) rfl ST.out.row.own ⟨gv11, 0, none⟩ 1 1 el.cells rfl (by rw [LX.out]) (fun j u hj => by rw [Addr.add_mid]; exact range_of_box NF.out j u hj) EL.out.one (by have := LL.out; unfold maxLen; omega) (by have := LL.out; omega) ST.out.lb ?_
          intro xv13 v13 q1 q2 q3
          have VO := Lib.hid (own_one q1)
          have ST := Lib.hid (ST.out.push CK.out EL.out q1 q2 q3)
          clear q1 q2 q3
          go_frame
          refine hK.out _ _ trivial (fun hHeld => ?_)
          clear hK K
          refine held_take (i := 6) (v := (.pointer (some ⟨g2, 68, none⟩))) rfl (by kernel_rfl) (by kernel_rfl) (by kernel_rfl) (fun _ _ _ h => h) (Or.inl ⟨by rfl, fun w' _ => by kernel_rfl⟩) hHeld ?_
          go_frame
          refine wpAnyH_ready (rs := [7]) (by kernel_rfl) (by simp) (held_cons rfl (fun K hK => ?_) AllReadyH.nil)
          rw [if_pos (by rfl)]
          refine wp_store_part 27 (.tmp 16) (.tmp 15) rfl g2 68 (hdL hd) [v] [] [xv13] 29 xv13 rfl rfl (cells_one VO.out) (hdL_length HH.out) rfl (by rw [ST.out.box.row]; simp [blL]) (by kernel_rfl) (one_mem VO.out) ?_
          intro v14 q1 q2
          have ST := Lib.hid (ST.out.store CK.out ⟨by rw [q1]; simp [blL]⟩ q2)
          clear q1 q2
          go_frame
          refine hK.out _ _ trivial (fun hHeld => ?_)
          clear hK K
          refine wpAnyH_done (by kernel_rfl) ?_ _
          clear hHeld
          go_wp2_with fail
          go_roundw
          case rel => exact ⟨k + 1, es ++ [el], xv13, b', d', by omega, by go_num, by rw [manyS, HMS.out, HX.out, List.map_append, List.map_singleton], ST.out, LB.out⟩
          case measure => simp [intOf]; omega
    · have hkn : k = n := by omega
      have hge : ¬ (k : Int) < (n : Int) := by omega
      obtain ⟨rfl, rfl, rfl⟩ : l = es.map (·.t) ∧ bz = b ∧ dz = d := by
        have h := T3.out
        rw [← hkn, HMS.out] at h
        simp only [Prod.mk.injEq] at h
        exact ⟨h.1.symm, h.2.1.symm, h.2.2.symm⟩
      obtain ⟨cs, hcs⟩ : ∃ cs, cs = blL hd v := ⟨_, rfl⟩
      have CS := Lib.hid hcs
      have LCS' : Hid (cs.toArray.size = 69) := by show _ = _; rw [hcs]; exact blL_size HH.out _
      have ON : Hid (cs.toArray.all (·.oneCell') = true) := by show _ = _; rw [hcs]; exact blL_one (own_one ST.out.row.own)
      have FR : Hid (wr.heap[g2]? = some (.cells cs.toArray 29 (0, 0))) := by show _ = _; rw [hcs]; exact ST.out.box.row
      clear hkn hcs
      go_wp2_with ((with_reducible show wpList _ _ _ _ _ _); first | (refine wpList_load_row rfl 29 (.tmp 2) rfl g2 rfl 29 cs.toArray (0, 0) _ FR.out Tryz.underlying29 rfl (by rw [LCS'.out]; kernel_rfl) ?_; go_frame) | (refine wpList_store_row rfl 29 (.tmp 2) (.tmp 18) rfl g2 cs.toArray rfl rfl 29 _ FR.out (by rw [LCS'.out]; kernel_rfl) (by rw [LCS'.out]) ON.out ?_; go_frame))
      refine bodyPost_ret (results_cell_row rfl _ _ g2 29 cs.toArray (0, 0) _ rfl (setRow_heap _ _ _ _ _ _ FR.out) Tryz.underlying29 rfl (by rw [LCS'.out]; kernel_rfl)) rfl ?_
      have hq := setRow_grown (w := wr) (g := g2) cs.toArray
      have hs := ST.out.store CK.out ⟨by rw [← CS.out]; exact setRow_heap _ _ _ _ _ _ FR.out⟩ hq
      have hf := hs.done CK.out HH.out
      rw [← CS.out] at hf
      exact ⟨_, rfl, hs.rd, hs.gr, hf⟩
end Go.Proofs.YtdamhoagiooicaaGreatDoor.Sha

/-
  Package block reads a block out of bytes. Nothing that was there turns. Conditions: the bytes lie where the slice says; the errors are there.
-/
namespace Go.Proofs.YtdamhoagiooicaaGreatDoor.Sha
open Go Go.RowKit
/-- What bytes are as a block. -/
structure BRead (bs : List UInt8) (x : TBlk) (c : Nat) : Prop where
  eq : readBlk bs = (x, c)
/-- What a Reader's bytes are as a block. -/
structure BTake (bs : List UInt8) (x : TBlk) (b : List UInt8) (d : Nat) : Prop where
  eq : blkS bs 0 = (x, b, d)
theorem bread_pair (bs : List UInt8) : ∃ u c, BRead bs u c := by
  obtain ⟨u, c, h⟩ : ∃ u c, readBlk bs = (u, c) := by
    generalize readBlk bs = p
    exact ⟨p.1, p.2, rfl⟩
  exact ⟨u, c, ⟨h⟩⟩
theorem noBlk_any (w : World) : BlkAt w (.agg (blL hdZ (.slice none 0 0)).toArray) noBlk := ⟨hdZ_ok, .slice none 0 0, rfl, TxsAt.nil _ _ _⟩
set_option maxHeartbeats 4000000 in
set_option maxRecDepth 100000 in
theorem read_blk (E : Nat → Addr) (bs : List UInt8) (v : Value) (w : World) (t : TBlk) (c : Nat) (hr : BRead bs t c) (hE : Er w E) (hs : SrcB w v bs) (hl : bs.length ≤ 70368744177664) :
    Calls Tryz.prog 8 #[v] w fun e w' => ∃ v', e = .returned (.tuple #[v', errV E c]) ∧ BlkAt w' v' t ∧ Below w.heap.size w w' := by
  obtain ⟨t0, b, d, ht⟩ : ∃ t b d, blkS bs 0 = (t, b, d) := by
    generalize blkS bs 0 = p
    exact ⟨p.1, p.2.1, p.2.2, rfl⟩
  have hq := readBlk_S bs t0 b d ht
  rw [hr.eq] at hq
  have HQ := Lib.hid hq
  have HT : BTake bs t0 b d := ⟨ht⟩
  have HE := Lib.hid hE
  have HS := Lib.hid hs
  clear hr hq ht hE hs
  go_enter Tryz.func8, Tryz.ntmps8
  go_upto_region 1 with fail
  rw [bl_zero]
  have f0 := heap_alloc_new w (.cells (blL hdZ (.slice none 0 0)).toArray 29 (0, 0))
  have bb := (Below.refl w.heap.size w).alloc (Nat.le_refl _) (.cells (blL hdZ (.slice none 0 0)).toArray 29 (0, 0))
  generalize hw0 : World.alloc _ _ = w0
  have e0 : w.alloc (.cells (blL hdZ (.slice none 0 0)).toArray 29 (0, 0)) = w0 := hw0
  rw [e0] at f0 bb
  obtain ⟨g2, hg2⟩ : ∃ g2, g2 = w.heap.size := ⟨_, rfl⟩
  have HW2 : Hid (w.heap.size ≤ g2) := by show _ ≤ _; rw [hg2]; exact Nat.le_refl _
  rw [← hg2] at f0 ⊢
  have F0 := Lib.hid f0
  have B0 := Lib.hid bb
  have G2L : Hid (g2 < w0.heap.size) := (Array.getElem?_eq_some_iff.1 f0).1
  clear f0 bb hw0 e0 hg2
  go_wp2_with fail
  refine (read_any E bs v w0 (HS.out.below B0.out) hl).mono ?_
  rintro e w1 ⟨m, r, rfl, i1, hb1, hr1, _⟩
  have B1 := Lib.hid (B0.out.trans (hb1.mono B0.out.size))
  have F1 := Lib.hid (row_below F0.out hb1)
  have G2R : Hid (g2 < r) := Nat.lt_of_lt_of_le G2L.out hr1
  have ER : Hid (ErR w1 E r) := ⟨HE.out.below B1.out, HE.out.lt (Nat.le_trans B0.out.size hr1)⟩
  have WR : Hid (w.heap.size ≤ r) := Nat.le_trans B0.out.size hr1
  obtain ⟨m', hm', i2⟩ := rd_low i1 ER.out
  have R1 := Lib.hid i2
  have M1 := Lib.hid hm'
  have RL1 : Hid (r < w1.heap.size) := i2.lt
  clear i1 hb1 hr1 i2 hm'
  go_wp2_with fail
  refine (take_blk E m' bs 0 r w1 ER.out R1.out M1.out hl t0 b d HT.eq).mono ?_
  rintro e w2 ⟨v2, rfl, i2, g2', sty⟩
  have R2 := Lib.hid i2
  have F2 := Lib.hid (row_far F1.out g2' (fun e => by have := Option.some.inj e; have := G2R.out; omega))
  have B2 := Lib.hid (B1.out.grown g2' B1.out.size (fun k hk => by cases hk; exact WR.out))
  have STY := Lib.hid sty
  obtain ⟨hh0, tv, rfl, htx⟩ := sty.now
  obtain ⟨cs, hcs⟩ : ∃ cs, cs = blL t0.head tv := ⟨_, rfl⟩
  have LCS' : Hid (cs.toArray.size = 69) := by show _ = _; rw [hcs]; exact blL_size hh0 _
  have ON : Hid (cs.toArray.all (·.oneCell') = true) := by show _ = _; rw [hcs]; exact blL_one htx.one
  rw [← hcs] at STY ⊢
  clear i2 g2' R1 F1 F0 sty hh0 htx hcs
  go_upto_region 3 with ((with_reducible show wpList _ _ _ _ _ _); refine wpList_store_row rfl 29 (.tmp 5) (.tmp 9) rfl w2.heap.size cs.toArray rfl rfl 29 _ (heap_alloc_new _ _) (by rw [LCS'.out]; kernel_rfl) (by rw [LCS'.out]; rfl) ON.out ?_; go_frame)
  obtain ⟨_, f2, f3, f4⟩ := fill_setup (Below.refl w2.heap.size w2) Tryz.zeroCells29 cs.toArray 29
  obtain ⟨g5, hg5⟩ : ∃ g5, g5 = w2.heap.size := ⟨_, rfl⟩
  generalize hw3 : World.setRow _ _ _ = w3
  rw [hw3] at f2 f4
  rw [← hg5] at f2 ⊢
  have G25 : Hid (g2 ≠ g5) := by show _ ≠ _; have := (Array.getElem?_eq_some_iff.1 F2.out).1; omega
  have F5 := Lib.hid f2
  have N3 := Lib.hid f4
  have F3 := Lib.hid (row_below F2.out f4)
  have R3 := Lib.hid (R2.out.below f4)
  have B3 := Lib.hid (B2.out.trans (f4.mono B2.out.size))
  clear f2 f3 f4 hw3 hg5 R2 F2
  have FIN : Hid (∀ w4, w3.grownBy w4 (some g2) → BlkAt w4 (.agg cs.toArray) t0 ∧ Below w.heap.size w w4) := fun w4 h4 =>
    ⟨STY.out w4 ((Kps.new N3.out).trans (Kps.grown h4 (fun k _ hk e => by have := Option.some.inj e; have := G2R.out; have := RL1.out; omega))), B3.out.grown h4 B3.out.size (fun k hk => by cases hk; exact HW2.out)⟩
  cases d with
  | succ d =>
    obtain ⟨rfl, rfl⟩ : t = noBlk ∧ c = d + 1 := by
      have := HQ.out
      rw [if_pos (by omega)] at this
      simpa using this
    have EA := err_any E m' b (d + 1) r w3 R3.out
    change Calls _ _ _ _ (fun e w' => e = .returned (.iface 176 (.pointer (some (E d)))) ∧ w3 = w') at EA
    have EA := Lib.hid EA
    go_wp2_with fail
    refine EA.out.mono ?_
    rintro e w' ⟨rfl, rfl⟩
    go_wp2_with fail
    refine EA.out.mono ?_
    rintro e w' ⟨rfl, rfl⟩
    clear EA
    go_wp2_with ((with_reducible show wpList _ _ _ _ _ _); (refine wpList_store_row rfl 29 (.tmp 2) (.tmp 14) rfl g2 (blL hdZ (.slice none 0 0)).toArray rfl (by kernel_rfl) 29 _ F3.out (by kernel_rfl) rfl (blL_one rfl) ?_; go_frame))
    refine bodyPost_ret (results_row_tmp rfl _ _ g2 29 (blL hdZ (.slice none 0 0)).toArray (0, 0) _ rfl (setRow_heap _ _ _ _ _ _ F3.out) Tryz.underlying29 rfl (by kernel_rfl)) rfl ?_
    exact ⟨_, rfl, noBlk_any _, (FIN.out _ (setRow_grown _)).2⟩
  | zero =>
    have EA := err_any E m' b 0 r w3 R3.out
    change Calls _ _ _ _ (fun e w' => e = .returned .nilIface ∧ w3 = w') at EA
    have EA := Lib.hid EA
    have LA := Lib.hid (left_any E m' b 0 r w3 R3.out)
    by_cases hb : b = []
    · obtain ⟨rfl, rfl⟩ : t0 = t ∧ 0 = c := by
        have := HQ.out
        rw [if_neg (by simp), if_neg (by simpa using hb)] at this
        simp only [Prod.mk.injEq] at this
        exact ⟨this.1.symm, this.2.symm⟩
      have LA2 : Hid (Calls Tryz.prog 36 #[.pointer (some ⟨r, 0, none⟩)] w3 fun e w' => e = .returned (.int .i64 0) ∧ w3 = w') := by
        have := LA.out
        rw [hb] at this
        exact this
      clear LA hb
      go_wp2_with fail
      refine EA.out.mono ?_
      rintro e w' ⟨rfl, rfl⟩
      clear EA
      go_wp2_with fail
      refine LA2.out.mono ?_
      rintro e w' ⟨rfl, rfl⟩
      clear LA2
      go_wp2_with ((with_reducible show wpList _ _ _ _ _ _); first | (refine wpList_load_row rfl 29 (.tmp 5) rfl g5 rfl 29 cs.toArray (0, 0) _ F5.out Tryz.underlying29 rfl (by rw [LCS'.out]; kernel_rfl) ?_; go_frame) | (refine wpList_store_row rfl 29 (.tmp 2) (.tmp 23) rfl g2 cs.toArray rfl rfl 29 _ F3.out (by rw [LCS'.out]; kernel_rfl) (by rw [LCS'.out]; rfl) ON.out ?_; go_frame))
      refine bodyPost_ret (results_row_tmp rfl _ _ g2 29 cs.toArray (0, 0) _ rfl (setRow_heap _ _ _ _ _ _ F3.out) Tryz.underlying29 rfl (by rw [LCS'.out]; kernel_rfl)) rfl ?_
      exact ⟨_, rfl, FIN.out _ (setRow_grown _)⟩
    · obtain ⟨rfl, rfl⟩ : t = noBlk ∧ c = 2 := by
        have := HQ.out
        rw [if_neg (by simp), if_pos (by simpa using hb)] at this
        simpa using this
      obtain ⟨nb, hnb⟩ : ∃ nb, nb = b.length := ⟨_, rfl⟩
      have p0 : (0 : Int) < (nb : Int) := by have := List.length_pos_iff.2 hb; omega
      rw [← hnb] at LA
      clear hb hnb
      go_wp2_with fail
      refine EA.out.mono ?_
      rintro e w' ⟨rfl, rfl⟩
      clear EA
      go_wp2_with fail
      refine LA.out.mono ?_
      rintro e w' ⟨rfl, rfl⟩
      clear LA
      go_wp2_with fail
      refine wp_region_held_drew (S := (fun w' => w'.cell? ⟨0, 0, none⟩ = some (.iface 176 (.pointer (some (E 1)))))) (by kernel_rfl) ((HE.out.below B3.out).2.1) (fun hHeld => ?_)
      have bb := Below.drew (Below.refl w3.heap.size w3)
      generalize hwd : w3.drew = wd
      rw [hwd] at hHeld bb
      have BD := Lib.hid bb
      have FD := Lib.hid (row_below F3.out bb)
      clear hwd bb
      refine held_take (i := 0) (v := (.agg (blL hdZ (.slice none 0 0)).toArray)) rfl (by kernel_rfl) (by kernel_rfl) (by kernel_rfl) (fun _ _ _ h => h) (Or.inl ⟨by rfl, fun w' _ => by kernel_rfl⟩) hHeld ?_
      go_frame
      refine held_take (i := 1) (v := (.iface 176 (.pointer (some (E 1))))) rfl (by kernel_rfl) (by kernel_rfl) (by kernel_rfl) (fun _ _ _ h => h) (yieldsIf_load_one (by rfl) 35 _ rfl 0 (0) rfl _ _ (fun w' hw' => hw') Tryz.underlying35 rfl) hHeld ?_
      go_frame
      refine wpAnyH_ready (rs := [2]) (by kernel_rfl) (by simp) (held_cons rfl (fun K hK => ?_) AllReadyH.nil)
      rw [if_pos (by rfl)]
      refine wp_store_part 29 (.tmp 2) (.tmp 21) rfl g2 0 [] (blL hdZ (.slice none 0 0)) [] (blL hdZ (.slice none 0 0)) 29 (.agg (blL hdZ (.slice none 0 0)).toArray) rfl rfl rfl rfl rfl (by simpa using FD.out) (by kernel_rfl) (fun u hu => Array.all_eq_true_iff_forall_mem.1 (blL_one (h := hdZ) (tv := .slice none 0 0) rfl) u (by simpa using hu)) ?_
      intro w5 q1 q2
      have F6 : Hid (w5.heap[g2]? = some (.cells (blL hdZ (.slice none 0 0)).toArray 29 (0, 0))) := by show _ = _; simpa using q1
      have Q := Lib.hid (grownBy_trans (grownBy_of_below BD.out _) q2)
      have hS := ((HE.out.below (FIN.out w5 Q.out).2).2.1)
      clear q1 q2 hHeld
      go_frame
      refine hK.out _ _ hS (fun hHeld => ?_)
      clear hK K hS
      refine held_take (i := 3) (v := (.iface 176 (.pointer (some (E 1))))) rfl (by kernel_rfl) (by kernel_rfl) (by kernel_rfl) (fun _ _ _ h => h) (Or.inl ⟨by rfl, fun w' _ => by kernel_rfl⟩) hHeld ?_
      go_frame
      refine wpAnyH_done (by kernel_rfl) ?_ _
      clear hHeld
      go_wp2_with fail
      refine bodyPost_ret (results_row_tmp rfl _ _ g2 29 (blL hdZ (.slice none 0 0)).toArray (0, 0) _ rfl F6.out Tryz.underlying29 rfl (by kernel_rfl)) rfl ?_
      exact ⟨_, rfl, noBlk_any _, (FIN.out w5 Q.out).2⟩
end Go.Proofs.YtdamhoagiooicaaGreatDoor.Sha

/-
  The statements' own 'light' for blocks: what it calls small is small. Nothing that was there turns. Condition: a block that lies in memory.
-/
namespace Go.Proofs.YtdamhoagiooicaaGreatDoor.Sha
open Go Go.RowKit
def LiInv (n : Nat) (l : List TTx) (w1 : World) (vn vi : Value) (wr : World) : Prop :=
  ∃ k s : Nat, k ≤ n ∧ vi = .int .i64 k ∧ vn = .int .i64 s ∧ s ≤ k * 120 ∧ (∀ j t, j < k → l[j]? = some t → TxSmall t) ∧ Below w1.heap.size w1 wr
def LiKey (n : Nat) (l : List TIn) (w1 : World) (vi : Value) (wr : World) : Prop :=
  ∃ k : Nat, k ≤ n ∧ vi = .int .i64 k ∧ (∀ j y, j < k → l[j]? = some y → y.key.length ≤ 100) ∧ Below w1.heap.size w1 wr
def LiPost (x : TBlk) (w : World) (e : Ending) (w' : World) : Prop := ∃ b, e = .returned (.bool b) ∧ (b = true → BlkSmall x) ∧ Below w.heap.size w w'
set_option maxHeartbeats 4000000 in
set_option maxRecDepth 100000 in
theorem bllight_any (x : TBlk) (v : Value) (w : World) (h1 : BlkAt w v x) (hc : ∀ t ∈ x.txs, TxCame t) (hn0 : x.txs.length ≤ 9223372036854775807) :
    Calls Tryz.prog 6 #[v] w (LiPost x w) := by
  have HC := Lib.hid hc
  clear hc
  have hn0' := hn0
  obtain ⟨hh, tv, rfl, ht⟩ := h1
  obtain ⟨sp, cap, rfl⟩ := ht.shape
  obtain ⟨n, hn⟩ : ∃ n, n = x.txs.length := ⟨_, rfl⟩
  rw [← hn] at ht ⊢
  have hcap : n ≤ cap := ht.len.2
  obtain ⟨cs, hcs⟩ : ∃ cs, cs = blL x.head (.slice sp n cap) := ⟨_, rfl⟩
  rw [← hcs]
  have CS := Lib.hid hcs
  have LCS : Hid (cs.length = 69) := by show _ = _; rw [hcs]; exact blL_length hh _
  have LCS' : Hid (cs.toArray.size = 69) := by show _ = _; rw [hcs]; exact blL_size hh _
  have BV : Hid (∀ W, Below w.heap.size w W → BlkAt W (.agg cs.toArray) x) := fun W hW => by rw [hcs]; exact ⟨hh, _, rfl, ht.below hW⟩
  have HH := Lib.hid hh
  have HT := Lib.hid ht
  have NN := Lib.hid hn
  clear hcs hh ht hn
  go_enter Tryz.func6, Tryz.ntmps6
  go_upto_region 1 with fail
  have f0 := heap_alloc_new w (.cells cs.toArray 29 (0, 0))
  have b0 := (Below.refl w.heap.size w).alloc (Nat.le_refl _) (.cells cs.toArray 29 (0, 0))
  generalize hw1 : World.alloc _ _ = w1
  have e1 : w.alloc (.cells cs.toArray 29 (0, 0)) = w1 := hw1
  rw [e1] at f0 b0
  have k0 := f0
  rw [CS.out] at k0
  have K : Hid (BlBox w1 w.heap.size x.head (.slice sp n cap)) := ⟨k0⟩
  have F0 := Lib.hid f0
  have B0 := Lib.hid b0
  clear hw1 e1 f0 b0 k0
  rw [← NN.out] at hn0'
  clear hn0
  have c68 : w1.cell? ⟨w.heap.size, 68, none⟩ = some (.slice sp n cap) := K.out.txs HH.out
  by_cases h210 : n ≤ 210
  case neg =>
    have h0 : (210 : Int) < (n : Int) := by omega
    clear h210
    go_wp2_with fail
    go_ret
    exact ⟨false, rfl, fun h => absurd h (by simp), B0.out⟩
  have h0 : ¬ (210 : Int) < (n : Int) := by omega
  have HN := Lib.hid h210
  go_wp2_with fail
  clear c68 h0
  go_loopw [3, 4] (fun vn vi wr => LiInv n x.txs w1 vn vi wr) (fun _ i _ => n - (intOf i).toNat)
  case atStart => exact ⟨0, 0, by omega, rfl, rfl, by omega, fun j t hj => by omega, Below.refl _ _⟩
  case round =>
    obtain ⟨k, s, hk, rfl, rfl, hs, hp, B⟩ := hrel
    have B := Lib.hid B
    have HP := Lib.hid hp
    have c68 : wr.cell? ⟨w.heap.size, 68, none⟩ = some (.slice sp n cap) := (K.out.below B.out).txs HH.out
    clear hp
    by_cases hlt : k < n
    · skip
      obtain ⟨b, o, hs1, _, hg⟩ := HT.out.get (by omega)
      obtain ⟨t, hgt⟩ : ∃ t, x.txs[k]? = some t := ⟨_, List.getElem?_eq_getElem (by have := NN.out; omega)⟩
      obtain ⟨iv, ov, hr, hta⟩ := hg k t hgt
      have LC : Hid ((txL t iv ov).length = 4) := rfl
      have LC' : Hid ((txL t iv ov).toArray.size = 4) := rfl
      have ONE : Hid ((txL t iv ov).toArray.all (·.oneCell') = true) := by
        obtain ⟨_, iv', ov', e, h1, h2⟩ := hta
        have e : txL t iv ov = txL t iv' ov' := by simpa using e
        rw [e]
        exact tx_one h1 h2
      obtain ⟨ct, hct⟩ : ∃ ct, ct = txL t iv ov := ⟨_, rfl⟩
      rw [← hct] at hr hta LC LC' ONE
      have R := Lib.hid (range_below (range_below hr B0.out) B.out)
      have TW := Lib.hid hta
      have TA : Hid (∀ W, Below wr.heap.size wr W → TxAt W (.agg ct.toArray) t) := fun W hW => ((hta.below B0.out).below B.out).below hW
      have GT := Lib.hid hgt
      have p0 : 0 ≤ (k : Int) := by omega
      have q0 : (k : Int) < (n : Int) := by omega
      subst hs1
      clear hg hgt hr hta hct
      obtain ⟨g5, hg5⟩ : ∃ g5, g5 = wr.heap.size := ⟨_, rfl⟩
      obtain ⟨_, f2, f3, f4⟩ := fill_setup (Below.refl wr.heap.size wr) [nV 0, .slice none 0 0, .slice none 0 0, nV 0].toArray ct.toArray 66
      go_upto_region 8 with ((with_reducible show wpList _ _ _ _ _ _); first | (refine wpList_load_mid rfl 66 (.tmp 21) rfl b (o + k * 4) rfl ct _ R.out Tryz.underlying66 rfl (by rw [LC.out]; kernel_rfl) ?_; go_frame) | (refine wpList_store_row rfl 66 (.tmp 5) (.tmp 22) rfl wr.heap.size ct.toArray rfl rfl 66 _ (heap_alloc_new _ _) (by rw [LC'.out]; kernel_rfl) (by rw [LC'.out]; rfl) ONE.out ?_; go_frame))
      rw [← hg5] at f2 f3 f4 ⊢
      generalize hw5 : World.setRow _ _ _ = w5
      have e5 : World.setRow (wr.alloc (.cells [nV 0, .slice none 0 0, .slice none 0 0, nV 0].toArray 66)) g5 ct.toArray = w5 := hw5
      rw [e5] at f2 f4
      rw [hg5] at f4
      have F5 := Lib.hid f2
      have N5 := Lib.hid f4
      have B5 := Lib.hid (B.out.trans (f4.mono B.out.size))
      have G5 := Lib.hid hg5
      clear f2 f3 f4 hg5 hw5 e5
      obtain ⟨_, iv2, ov2, hag, hi0, ho0⟩ := TW.out
      have hct2 : ct = txL t iv2 ov2 := by have := Value.agg.inj hag; have := congrArg Array.toList this; simpa using this
      obtain ⟨si, ci, rfl, hci, hi1⟩ := hi0
      obtain ⟨so, co, rfl, hco, _⟩ := ho0
      obtain ⟨ni, hni⟩ : ∃ ni, ni = t.ins.length := ⟨_, rfl⟩
      obtain ⟨no, hno⟩ : ∃ no, no = t.outs.length := ⟨_, rfl⟩
      rw [← hni, ← hno] at hct2
      have FB := F5.out
      rw [hct2] at FB
      have C1 : Hid (∀ W, Below w5.heap.size w5 W → W.cell? ⟨g5, 1, none⟩ = some (.slice si ni ci) ∧ W.cell? ⟨g5, 2, none⟩ = some (.slice so no co)) := fun W hW => ⟨(tx_cells (row_below FB hW)).2.1, (tx_cells (row_below FB hW)).2.2.1⟩
      have HI := Lib.hid hi1
      have NI := Lib.hid hni
      have NO := Lib.hid hno
      clear hag hct2 hi1 hni hno hci hco FB TA R LC LC' ONE TW c68
      have c1 := (C1.out w5 (Below.refl _ _)).1
      have c2 := (C1.out w5 (Below.refl _ _)).2
      by_cases hi : ni ≤ 60
      case neg =>
        have h60 : (60 : Int) < (ni : Int) := by omega
        clear hi
        go_wp2_with fail
        go_ret
        exact ⟨false, rfl, fun h => absurd h (by simp), B0.out.trans (B5.out.mono B0.out.size)⟩
      have h60 : ¬ (60 : Int) < (ni : Int) := by omega
      have h60' : decide ((60 : Int) < (ni : Int)) = false := decide_eq_false h60
      by_cases ho : no ≤ 60
      case neg =>
        have ho60 : (60 : Int) < (no : Int) := by omega
        clear hi ho
        go_wp2_with fail
        go_ret
        exact ⟨false, rfl, fun h => absurd h (by simp), B0.out.trans (B5.out.mono B0.out.size)⟩
      have ho60 : ¬ (60 : Int) < (no : Int) := by omega
      have h3 := HN.out
      have u1 : IntKind.i64.wrap ((s : Int) + (ni : Int)) = ((s + ni : Nat) : Int) := by rw [i64_stays (by omega)]; omega
      have u2 : IntKind.i64.wrap (((s + ni : Nat) : Int) + (no : Int)) = ((s + ni + no : Nat) : Int) := by rw [i64_stays (by omega)]; omega
      obtain ⟨s2, hs2⟩ : ∃ s2, s2 = s + ni + no := ⟨_, rfl⟩
      rw [← hs2] at u2
      have hs3 : s2 ≤ (k + 1) * 120 := by omega
      have HS3 := Lib.hid hs3
      have V3 : Hid (Value.int .i64 (IntKind.i64.wrap ((s : Int) + (ni : Int) + (no : Int))) = Value.int .i64 (s2 : Int)) := by show _ = _; rw [i64_stays (by omega), hs2]; simp
      have HO := Lib.hid ho
      have HNI := Lib.hid hi
      clear hs2 hs3 hi ho hs
      go_wp2_with fail
      clear c1 c2 h60 h60' ho60 u1 u2
      obtain ⟨wo, rfl⟩ : ∃ wo : World, wo = wr := ⟨_, rfl⟩
      go_loopw [6] (fun vi wq => LiKey ni t.ins w5 vi wq) (fun i _ => ni - (intOf i).toNat)
      case atStart => exact ⟨0, by omega, rfl, fun j y hj => by omega, Below.refl _ _⟩
      case round =>
        obtain ⟨j, hj, rfl, hq, BQ⟩ := hrel
        have BQ := Lib.hid BQ
        have HQ := Lib.hid hq
        have bni := HNI.out
        have BW := Lib.hid (B5.out.trans (BQ.out.mono B5.out.size))
        have c1 := (C1.out wr BQ.out).1
        clear hq
        by_cases hlt2 : j < ni
        · have hkx : j < t.ins.length := by have := NI.out; omega
          obtain ⟨b1, o1, hs1, he1⟩ := HI.out (by omega)
          have g1 := he1 j _ (List.getElem?_eq_getElem hkx)
          obtain ⟨y, hy⟩ : ∃ x, x = t.ins[j] := ⟨_, rfl⟩
          rw [← hy] at g1
          have hgx : t.ins[j]? = some y := by rw [hy]; exact List.getElem?_eq_getElem _
          obtain ⟨hx1, kx, hkx2, hr1⟩ := g1
          obtain ⟨sx, cx, hkv⟩ := hkx2.2
          have ck : wr.cell? ⟨b1, o1 + j * 35 + 33, none⟩ = some (.slice sx y.key.length cx) := by
            rw [← hkv]
            exact in_key hx1.1 (range_below (range_below hr1 B0.out) BW.out)
          obtain ⟨kl, hkl⟩ : ∃ kl, kl = y.key.length := ⟨_, rfl⟩
          rw [← hkl] at ck
          rw [hs1] at c1
          have p0 : 0 ≤ (j : Int) := by omega
          have q0 : (j : Int) < (ni : Int) := by omega
          have GX := Lib.hid hgx
          have KL := Lib.hid hkl
          clear hy hgx he1 hs1 hx1 hkx2 hr1 hkv hkl hkx
          by_cases h100 : kl ≤ 100
          · have hle : ¬ (100 : Int) < (kl : Int) := by omega
            have H100 := Lib.hid h100
            clear h100
            go_wp2_with fail
            go_roundw
            case rel =>
              refine ⟨j + 1, by omega, by go_num, fun i z hi hz => ?_, BQ.out⟩
              by_cases hi2 : i < j
              · exact HQ.out i z hi2 hz
              · obtain rfl : i = j := by omega
                have := Option.some.inj (GX.out.symm.trans hz)
                subst this
                rw [← KL.out]
                exact H100.out
            case measure => simp [intOf]; omega
          · have hle : (100 : Int) < (kl : Int) := by omega
            clear h100
            go_wp2_with fail
            go_ret
            exact ⟨false, rfl, fun h => absurd h (by simp), B0.out.trans (BW.out.mono B0.out.size)⟩
        · have hjn : j = ni := by omega
          have hge : ¬ (j : Int) < (ni : Int) := by omega
          have SM : Hid (TxSmall t) := by
            refine small_of_light (HC.out t (List.mem_of_getElem? GT.out)) ?_
            unfold lightB
            rw [← NI.out, ← NO.out, decide_eq_true HNI.out, decide_eq_true HO.out, all_take (fun i z hz => decide_eq_true (HQ.out i z (by have := (List.getElem?_eq_some_iff.1 hz).1; have := NI.out; omega) hz))]
            rfl
          clear hjn
          go_wp2_with fail
          go_roundw
          case rel =>
            refine ⟨k + 1, s2, by omega, by go_num, by have h := V3.out; rwa [IntWalk.i64_left] at h, HS3.out, fun i z hi hz => ?_, BW.out⟩
            by_cases hi2 : i < k
            · exact HP.out i z hi2 hz
            · obtain rfl : i = k := by omega
              have := Option.some.inj (GT.out.symm.trans hz)
              subst this
              exact SM.out
          case measure => simp [intOf]; omega
    · have hkn : k = n := by omega
      have hge : ¬ (k : Int) < (n : Int) := by omega
      have SM : Hid (BlkSmall x) := ⟨fun t ht => by
        obtain ⟨j, hj⟩ := List.getElem?_of_mem ht
        exact HP.out j t (by have := (List.getElem?_eq_some_iff.1 hj).1; have := NN.out; omega) hj, by have := NN.out; omega⟩
      clear hkn
      go_wp2_with fail
      go_ret
      exact ⟨_, rfl, fun _ => SM.out, B0.out.trans (B.out.mono B0.out.size)⟩
end Go.Proofs.YtdamhoagiooicaaGreatDoor.Sha

/-
  Package block writes a block down, in new memory. Nothing that was there turns. Condition: a block of a few transactions that lies in memory.
-/
namespace Go.Proofs.YtdamhoagiooicaaGreatDoor.Sha
open Go Go.RowKit
def BbInv (n : Nat) (A : List UInt8) (l : List TTx) (w1 : World) (vb vi : Value) (wr : World) : Prop :=
  ∃ (k : Nat) (vq : Value), vq = vb ∧ k ≤ n ∧ vi = .int .i64 k ∧ CopyB w1 wr vq (A ++ txsB (l.take k))
set_option maxHeartbeats 2000000 in
set_option maxRecDepth 100000 in
theorem blbytes_any (x : TBlk) (v : Value) (w : World) (h1 : BlkAt w v x) (hs : BlkSmall x) :
    Calls Tryz.prog 11 #[v] w fun e w' => ∃ v', e = .returned v' ∧ CopyB w w' v' (blkB x) := by
  obtain ⟨i0, hi, hz0, hz1, hz2⟩ := info_parts info_u8
  have TL := Lib.hid hs.txs
  have BL := Lib.hid (blkB_len h1.1)
  have SZL := Lib.hid (hs.len h1.1)
  obtain ⟨hh, tv, rfl, ht⟩ := h1
  obtain ⟨sp, cap, rfl⟩ := ht.shape
  obtain ⟨n, hn⟩ : ∃ n, n = x.txs.length := ⟨_, rfl⟩
  rw [← hn] at ht ⊢
  have hcap : n ≤ cap := ht.len.2
  obtain ⟨cs, hcs⟩ : ∃ cs, cs = blL x.head (.slice sp n cap) := ⟨_, rfl⟩
  rw [← hcs]
  have CS := Lib.hid hcs
  have LCS : Hid (cs.length = 69) := by show _ = _; rw [hcs]; exact blL_length hh _
  have LCS' : Hid (cs.toArray.size = 69) := by show _ = _; rw [hcs]; exact blL_size hh _
  have BV : Hid (∀ W, Below w.heap.size w W → BlkAt W (.agg cs.toArray) x) := fun W hW => by rw [hcs]; exact ⟨hh, _, rfl, ht.below hW⟩
  have HH := Lib.hid hh
  have HT := Lib.hid ht
  have NN := Lib.hid hn
  have TS := Lib.hid hs
  have bn : n ≤ 1000 := by rw [hn]; exact hs.2
  clear hs
  clear hcs hh ht hn
  go_enter Tryz.func11, Tryz.ntmps11
  go_upto_region 1 with fail
  have f0 := heap_alloc_new w (.cells cs.toArray 29 (0, 0))
  have b0 := (Below.refl w.heap.size w).alloc (Nat.le_refl _) (.cells cs.toArray 29 (0, 0))
  generalize hw1 : World.alloc _ _ = w1
  have e1 : w.alloc (.cells cs.toArray 29 (0, 0)) = w1 := hw1
  rw [e1] at f0 b0
  have k0 := f0
  rw [CS.out] at k0
  have K : Hid (BlBox w1 w.heap.size x.head (.slice sp n cap)) := ⟨k0⟩
  have F0 := Lib.hid f0
  have B0 := Lib.hid b0
  clear hw1 e1 f0 b0 k0
  obtain ⟨sz, hsz⟩ : ∃ sz, sz = (blkB x).length := ⟨_, rfl⟩
  have bsz : sz ≤ 200200000000 := by rw [hsz]; exact SZL.out
  have SZ : Hid (∀ W, Below w.heap.size w W → Calls Tryz.prog 12 #[.agg cs.toArray] W fun e w'' => e = .returned (.int .i64 (sz : Int)) ∧ Below W.heap.size W w'') := fun W hW => by
    rw [hsz]
    exact blsize_any x _ W (BV.out W hW) TS.out
  clear hsz
  go_wp2_with ((with_reducible show wpList _ _ _ _ _ _); (refine wpList_load_row rfl 29 (.tmp 1) rfl w.heap.size rfl 29 cs.toArray (0, 0) _ F0.out Tryz.underlying29 rfl (by rw [LCS'.out]; kernel_rfl) ?_; go_frame))
  refine (SZ.out w1 B0.out).mono ?_
  rintro e w2 ⟨rfl, hb2⟩
  have B2 := Lib.hid hb2
  clear hb2 SZ
  go_upto_region 2 with (at_make; refine wpList_make_own _ rfl _ _ 30 rfl w2.heap.size 5 i0 (.int .u8 0) 1 Tryz.underlying30 hi hz0 hz1 _ _ _ sz rfl rfl (by omega) (by rw [hz2]; omega) (by unfold maxLen; omega) (Nat.le_refl _) ?_; intro w3 hown hgrow; have C3 : Hid (CopyB w2 w3 (.slice (some ⟨w2.heap.size, 0, none⟩) 0 sz) []) := (⟨hown, below_made hgrow⟩ : CopyB w2 w3 (.slice (some ⟨w2.heap.size, 0, none⟩) 0 sz) []); clear hown hgrow; go_frame)
  have C3 := Lib.hid (C3.out.start B2.out)
  clear bsz
  have HB : Hid (∀ W, Below w1.heap.size w1 W → Calls Tryz.prog 40 #[.agg (hdL x.head).toArray] W fun e w'' => ∃ v, e = .returned v ∧ CopyB W w'' v (hdB x.head)) := fun W _ => hdbytes_any x.head HH.out W
  have HR : Hid (∀ W, Below w1.heap.size w1 W → W.rangeAt w.heap.size 0 (hdL x.head)) := fun W hW => (K.out.below hW).head
  have HL : Hid ((hdL x.head).length = 68) := hdL_length HH.out
  obtain ⟨hl, hhl⟩ : ∃ hl, hl = hdL x.head := ⟨_, rfl⟩
  rw [← hhl] at HB HR HL
  clear hhl
  have r0 := HR.out w3 C3.out.2
  have R0 := Lib.hid r0
  clear r0
  go_wp2_with ((with_reducible show wpList _ _ _ _ _ _); refine wpList_load_mid rfl 26 (.tmp 10) rfl w.heap.size 0 rfl hl _ R0.out Tryz.underlying26 rfl (by rw [HL.out]; kernel_rfl) ?_; go_frame)
  refine (HB.out w3 C3.out.2).mono ?_
  rintro e w4 ⟨v4, rfl, hc4⟩
  have P4 := Lib.hid hc4
  have C4 := Lib.hid (C3.out.keep hc4.2)
  obtain ⟨s4, n4, c4, rfl, hn4, _⟩ := hc4.src.shape'
  have HD80 : Hid ((hdB x.head).length = 80) := hdB_length HH.out
  clear hn4 hc4 C3 R0 HB
  go_upto_region 3 with ((with_reducible show wpList _ _ _ _ _ _); refine wpList_append_g _ rfl (.tmp 9) (.tmp 12) 30 rfl w1.heap.size 5 i0 Tryz.underlying30 hi hz0 hz1 hz2 _ _ _ (by rfl) C4.out.1 (.slice s4 n4 c4) (hdB x.head) (by rfl) P4.out.src (by rw [HD80.out]; simp) C4.out.2.size ?_; intro v5 w5 a1 a2 a3; have C5 := Lib.hid (C4.out.app a1 a2); clear a1 a2 a3; go_frame)
  rw [List.nil_append] at C5
  clear C4 P4
  have c68 : w5.cell? ⟨w.heap.size, 68, none⟩ = some (.slice sp n cap) := (K.out.below C5.out.2).txs HH.out
  have u1 : IntKind.u64.wrap (n : Int) = (n : Int) := u64_stays (by omega)
  go_wp2_with fail
  refine (put_new [] _ n w5 (nil_src _) (by simp)).mono ?_
  rintro e w6 ⟨s6, n6, c6, rfl, hn6, hc6⟩
  have P6 := Lib.hid hc6
  have C6 := Lib.hid (C5.out.keep hc6.2)
  clear hn6 hc6 c68 u1 C5
  rw [List.nil_append] at P6
  have LP6 : Hid ((putL n).length ≤ 9) := by show _ ≤ _; rw [putL_length]; have := lenN_bd n; omega
  go_upto_region 4 with ((with_reducible show wpList _ _ _ _ _ _); refine wpList_append_g _ rfl (.tmp 14) (.tmp 19) 30 rfl w1.heap.size 5 i0 Tryz.underlying30 hi hz0 hz1 hz2 _ _ _ (by rfl) C6.out.1 (.slice s6 n6 c6) (putL n) (by rfl) P6.out.src (by have := HD80.out; have := LP6.out; omega) C6.out.2.size ?_; intro v7 w7 a1 a2 a3; have C7 := Lib.hid (C6.out.app a1 a2); clear a1 a2 a3; go_frame)
  obtain ⟨A7, hA7⟩ : ∃ A7, A7 = hdB x.head ++ putL n := ⟨_, rfl⟩
  rw [← hA7] at C7
  have LA7 : Hid (A7.length ≤ 89) := by show _ ≤ _; rw [hA7, List.length_append]; have := HD80.out; have := LP6.out; omega
  have HA7 := Lib.hid hA7
  clear hA7 P6 C6 LP6
  have c68 : w7.cell? ⟨w.heap.size, 68, none⟩ = some (.slice sp n cap) := (K.out.below C7.out.2).txs HH.out
  go_wp2_with fail
  clear c68
  go_loopw [3, 24] (fun vb vi wr => BbInv n A7 x.txs w1 vb vi wr) (fun _ i _ => n - (intOf i).toNat)
  case atStart => exact ⟨0, _, rfl, by omega, rfl, by simpa [txsB] using C7.out⟩
  case round =>
    clear C7
    obtain ⟨k, vb, rfl, hk, rfl, HC⟩ := hrel
    have HC := Lib.hid HC
    have B := Lib.hid HC.out.2
    by_cases hlt : k < n
    · skip
      obtain ⟨b, o, hs1, _, hg⟩ := HT.out.get (by omega)
      obtain ⟨t, hgt⟩ : ∃ t, x.txs[k]? = some t := ⟨_, List.getElem?_eq_getElem (by have := NN.out; omega)⟩
      obtain ⟨iv, ov, hr, hta⟩ := hg k t hgt
      have LC : Hid ((txL t iv ov).length = 4) := rfl
      have LC' : Hid ((txL t iv ov).toArray.size = 4) := rfl
      have ONE : Hid ((txL t iv ov).toArray.all (·.oneCell') = true) := by
        obtain ⟨_, iv', ov', e, h1, h2⟩ := hta
        have e : txL t iv ov = txL t iv' ov' := by simpa using e
        rw [e]
        exact tx_one h1 h2
      obtain ⟨ct, hct⟩ : ∃ ct, ct = txL t iv ov := ⟨_, rfl⟩
      rw [← hct] at hr hta LC LC' ONE
      have R := Lib.hid (range_below (range_below hr B0.out) B.out)
      have TA : Hid (∀ W, Below wr.heap.size wr W → TxAt W (.agg ct.toArray) t) := fun W hW => ((hta.below B0.out).below B.out).below hW
      have GT := Lib.hid hgt
      have p0 : 0 ≤ (k : Int) := by omega
      have q0 : (k : Int) < (n : Int) := by omega
      subst hs1
      clear hg hgt hr hta hct
      obtain ⟨g5, hg5⟩ : ∃ g5, g5 = wr.heap.size := ⟨_, rfl⟩
      obtain ⟨_, f2, f3, f4⟩ := fill_setup (Below.refl wr.heap.size wr) [nV 0, .slice none 0 0, .slice none 0 0, nV 0].toArray ct.toArray 66
      go_upto_region 7 with ((with_reducible show wpList _ _ _ _ _ _); first | (refine wpList_load_mid rfl 66 (.tmp 26) rfl b (o + k * 4) rfl ct _ R.out Tryz.underlying66 rfl (by rw [LC.out]; kernel_rfl) ?_; go_frame) | (refine wpList_store_row rfl 66 (.tmp 5) (.tmp 27) rfl wr.heap.size ct.toArray rfl rfl 66 _ (heap_alloc_new _ _) (by rw [LC'.out]; kernel_rfl) (by rw [LC'.out]; rfl) ONE.out ?_; go_frame))
      rw [← hg5] at f2 f3 f4 ⊢
      generalize hw5 : World.setRow _ _ _ = w5
      have e5 : World.setRow (wr.alloc (.cells [nV 0, .slice none 0 0, .slice none 0 0, nV 0].toArray 66)) g5 ct.toArray = w5 := hw5
      rw [e5] at f2 f4
      rw [hg5] at f4
      have F5 := Lib.hid f2
      have N5 := Lib.hid f4
      have B5 := Lib.hid (B.out.trans (f4.mono B.out.size))
      have G5 := Lib.hid hg5
      clear f2 f3 f4 hg5 hw5 e5
      have C5' := Lib.hid (HC.out.keep N5.out)
      have bs : (A7 ++ txsB (x.txs.take k)).length + (txB t).length ≤ 300000000000 := by
        have h1 := txsB_part GT.out
        have h2 := TL.out
        have h4 := LA7.out
        rw [List.length_append]
        omega
      have BS := Lib.hid bs
      have SZ : Hid (Calls Tryz.prog 42 #[.agg ct.toArray] w5 fun e w' => ∃ v', e = .returned v' ∧ w'.ownsRow w5.heap.size 5 1 v' (txB t).length ((txB t).map bV) ∧ Below w5.heap.size w5 w') := bytes_all t _ w5 (TA.out _ N5.out) (TS.out.1 t (List.mem_of_getElem? GT.out))
      clear bs HC
      go_wp2_with ((with_reducible show wpList _ _ _ _ _ _); (refine wpList_load_row rfl 66 (.tmp 5) rfl g5 rfl 66 ct.toArray (0, 0) _ F5.out Tryz.underlying66 rfl (by rw [LC'.out]; kernel_rfl) ?_; go_frame))
      refine SZ.out.mono ?_
      rintro e w6 ⟨v6, rfl, ho6, hb6⟩
      have P6 : Hid (CopyB w5 w6 v6 (txB t)) := (⟨ho6, hb6⟩ : CopyB w5 w6 v6 (txB t))
      have C6 := Lib.hid (C5'.out.keep hb6)
      obtain ⟨s6, n6, c6, rfl, hn6, _⟩ := P6.out.src.shape'
      clear ho6 hb6 hn6 C5' SZ
      go_upto_region 8 with ((with_reducible show wpList _ _ _ _ _ _); refine wpList_append_g _ rfl (.tmp 28) (.tmp 30) 30 rfl w1.heap.size 5 i0 Tryz.underlying30 hi hz0 hz1 hz2 _ _ _ (by rfl) C6.out.1 (.slice s6 n6 c6) (txB t) (by rfl) P6.out.src (by have := BS.out; omega) C6.out.2.size ?_; intro v7 w7 a1 a2 a3; have C7 := Lib.hid (C6.out.app a1 a2); clear a1 a2 a3; go_frame)
      go_wp2_with fail
      go_roundw
      case rel =>
        refine ⟨k + 1, _, rfl, by omega, by go_num, ?_⟩
        rw [txsB_snoc GT.out, ← List.append_assoc]
        exact C7.out
      case measure => simp [intOf]; omega
    · have hkn : k = n := by omega
      have hge : ¬ (k : Int) < (n : Int) := by omega
      have HE : Hid (A7 ++ txsB (x.txs.take k) = blkB x) := by
        show _ = _
        rw [hkn, NN.out, List.take_length, HA7.out, NN.out]
        rfl
      clear hkn
      go_wp2_with fail
      go_ret
      exact ⟨_, rfl, by have h := HC.out.start B0.out; rw [HE.out] at h; exact h⟩
end Go.Proofs.YtdamhoagiooicaaGreatDoor.Sha
