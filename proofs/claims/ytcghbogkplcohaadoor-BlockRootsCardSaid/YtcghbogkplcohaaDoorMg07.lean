/-
  Texts of this proof joined into one file: TxTakeW0, BlStore, MkConcat, BlConcat, TxBuilds, TxSize, TxKeys, TxAdds, TxTwice, TxPlaces. What each holds, and under which conditions, its own first sentence tells.
-/
import Derived.Maps.AppendAt
import Derived.Lib.AppendZerosOnto
import Derived.Lib.Walk
import Derived.IntWalk
import Derived.Maps.OwnSet
import Derived.DeepKeys4
import Derived.Great.BuildSlice
import Derived.Test.YtcghbogkplcohaaDoorMg06
import Derived.Test.YtcghbogkplcohaaDoorMg01
import Derived.Test.YtcghbogkplcohaaDoorMg05
import Derived.Test.YtcghbogkplcohaaDoorMg04
/-
  Loads and appends of structures where a region draws its order; rows that stay where others grow. No conditions beyond those that each states.
-/
namespace Go.Proofs.YtcghbogkplcohaaDoor.Sha
open Go Go.RowKit
section
variable {P : Program}
theorem wp_load_cell {op : Oper} {a : Act} {w : World} {K : Act → World → Prop} {Q : Exit → Act → World → Prop} (ty : TypeId) (x : Operand) (ho : op.op = .load ty x) (b off : Nat) (hx : a.eval x = .pointer (some ⟨b, off, none⟩)) (v : Value) (d : TypeDesc)
    (hc : w.cell? ⟨b, off, none⟩ = some v) (hu : P.underlying ty = some d) (hd : d.isRow = false) (h : K (a.put op.dst v) w) : op.wp P a w K Q := by
  have hagg : (isAgg ty).run P w = .ok false w := by
    unfold isAgg
    rw [Sem.run_bind, run_underlying hu w]
    cases d <;> simp_all
  unfold Oper.wp execOp
  simp [ho, hx, Instr.loadAt, Instr.sureAddr, Sem.run_bind, loadVar, hagg, hc]
  exact h
theorem wp_append_row (w : World) {o : Oper} {a : Act} {K : Act → World → Prop} {Q : Exit → Act → World → Prop} (s x : Operand) (t : TypeId)
    (ho : o.op = Op.call { callee := Callee.builtin Builtin.append, args := #[s, x], argTypes := #[t, t] })
    (base : Nat) (e : TypeId) (i : TypeInfo) (z : Value) (size bytes : Nat) (ht : P.underlying t = some (.slice e)) (hi : P.info? e = some i) (hz : i.zero = some z)
    (hsize : i.size = size) (hby : i.bytes = bytes) (hzs : z.cells.size = size) (hsz : 0 < size)
    (v : Value) (n : Nat) (xs : List Value) (hs : a.eval s = v) (hown : w.ownsRow base e size v n xs)
    (ad : Addr) (m c : Nat) (news : List Value) (hx : a.eval x = .slice (some ad) m c) (hl : news.length = m * size) (hnews : ∀ j u, news[j]? = some u → w.cell? (ad.add j) = some u) (h1 : ∀ u ∈ news, u.oneCell' = true)
    (h63 : n + m ≤ maxLen) (hbytes : (n + m) * bytes ≤ 140737488355328) (hbase : base ≤ w.heap.size)
    (h : ∀ v' w', w'.ownsRow base e size v' (n + m) (xs ++ news) → w.grownBy w' v.ownBlock → (v'.ownBlock = v.ownBlock ∨ v'.ownBlock = some w.heap.size) → K (a.put o.dst v') w') : o.wp P a w K Q := by
  obtain ⟨v', w', hr, h2, h3, _, h5⟩ := run_append_own_at (P := P) w base t o.type e i z size bytes ht hi hz hsize hby hzs hsz v n xs hown ad m c news hl hnews h1 h63 hbytes hbase
  unfold Oper.wp execOp
  simp only [ho, resolve, invoke, builtin, Sem.run_bind, Sem.run_pure, Result.andThen_ok, List.map_toArray, List.map_cons, List.map_nil, hs, hx, hr]
  exact h v' w' h2 h3 h5
end
theorem own_one {w : World} {base n size : Nat} {e : TypeId} {v : Value} {xs : List Value} (h : w.ownsRow base e size v n xs) : v.oneCell' = true := by
  rcases h.2 with ⟨rfl, _⟩ | ⟨g, cap, cur, rfl, _⟩ <;> rfl
theorem cells_one {v : Value} (h : v.oneCell' = true) : v.cells = [v].toArray := by cases v <;> first | rfl | cases h
theorem in_mem_one (x : TIn) (kv : Value) (hk : kv.oneCell' = true) : ∀ u ∈ inL x kv, u.oneCell' = true := fun u hu => by
  have := in_one x kv hk
  rw [Array.all_eq_true_iff_forall_mem] at this
  exact this u (by simpa using hu)
theorem out_mem_one (y : TOut) : ∀ u ∈ outL y, u.oneCell' = true := fun u hu => by
  have := out_one y
  rw [Array.all_eq_true_iff_forall_mem] at this
  exact this u (by simpa using hu)
theorem InsOwn.grow {base : Nat} {w w' : World} {v : Value} {l : List TIn} {ks : List Value} {q : Option Nat} (h : InsOwn base w v l ks) (hg : w.grownBy w' q) (hq : ∀ j, q = some j → v.ownBlock ≠ some j ∧ ∀ (i : Nat) kv, ks[i]? = some kv → Off kv (some j)) : InsOwn base w' v l ks := by
  cases q with
  | none => exact h.keep (below_made hg)
  | some j =>
    obtain ⟨a, b⟩ := hq j rfl
    exact ⟨h.1, h.2.1.kept hg (.inr a), h.2.2.1, fun i x kv hx hk => ⟨(h.2.2.2 i x kv hx hk).1.off (b i kv hk) hg, (h.2.2.2 i x kv hx hk).2⟩⟩
/-- All of a row's memory lies below. -/
def InsLow (B : Nat) (v : Value) (ks : List Value) : Prop := ∀ j, B ≤ j → v.ownBlock ≠ some j ∧ ∀ (i : Nat) kv, ks[i]? = some kv → Off kv (some j)
theorem InsOwn.low {base : Nat} {w : World} {v : Value} {l : List TIn} {ks : List Value} (h : InsOwn base w v l ks) : InsLow w.heap.size v ks := fun j hj => by
  refine ⟨fun e => ?_, fun i kv hk => ?_⟩
  · have := (h.2.1.lt j e).2
    omega
  · obtain ⟨x, hx⟩ : ∃ x, l[i]? = some x := ⟨_, List.getElem?_eq_getElem (by have := (List.getElem?_eq_some_iff.1 hk).1; have := h.1; omega)⟩
    exact (h.2.2.2 i x kv hx hk).1.fresh hj
theorem txS_laid (bs x1 b1 b2 b3 b4 b5 x6 b6 : List UInt8) (c d1 d2 d3 d4 d5 d6 n1 n2 : Nat) (l1 : List TIn) (l2 : List TOut) (h1 : takeL 4 bs c = (x1, b1, d1)) (h2 : numL 50 b1 d1 = (n1, b2, d2)) (h3 : manyS inP n1 b2 d2 = (l1, b3, d3))
    (h4 : numL 50 b3 d3 = (n2, b4, d4)) (h5 : manyS outP n2 b4 d4 = (l2, b5, d5)) (h6 : takeL 4 b5 d5 = (x6, b6, d6)) : txS bs c = (⟨leN x1, l1, l2, leN x6⟩, b6, d6) := by
  simp only [txS, thenP, mapP, leP_of h1, h2, h3, h4, h5, leP_of h6]
theorem gr_own {w0 w w' : World} {r q : Option Nat} {B : Nat} (h : w0.grownBy w r) (hg : w.grownBy w' q) (hq : ∀ k, q = some k → B ≤ k) (hB : w0.heap.size ≤ B) : w0.grownBy w' r :=
  ⟨hg.os.trans h.os, hg.tape.trans h.tape, hg.output.trans h.output, Nat.le_trans h.size hg.size, fun k hk hne => by
    rw [hg.block k (Nat.lt_of_lt_of_le hk h.size) (fun e => by have := hq k e.symm; omega)]
    exact h.block k hk hne⟩
theorem row_own {w w' : World} {g : Nat} {o : Obj} {q : Option Nat} {B : Nat} (h : w.heap[g]? = some o) (hg : w.grownBy w' q) (hq : ∀ k, q = some k → B ≤ k) (hB : g < B) : w'.heap[g]? = some o :=
  row_far h hg (fun e => by have := hq g e; omega)
end Go.Proofs.YtcghbogkplcohaaDoor.Sha

/-
  Stores into one part of a block's box; the zero block; one transaction in a row. No conditions beyond those that each states.
-/
namespace Go.Proofs.YtcghbogkplcohaaDoor.Sha
open Go Go.RowKit
theorem bl_zero : Tryd.zeroCells37 = (blL hdZ (.slice none 0 0)).toArray := by kernel_rfl
theorem info_txc : (Tryd.prog.info? 32).map (fun i => (i.zero, i.size, i.bytes)) = some (some (.agg [nV 0, .slice none 0 0, .slice none 0 0, nV 0].toArray), 4, 64) := by kernel_rfl
section
variable {ops : Array Oper} {rest : List Oper} {op : Oper} {a : Act} {w : World} {Q : Exit → Act → World → Prop} {g : Nat} {h : THd} {tv : Value}
theorem st_blroot (hgd : op.guard = none) (x y : Operand) (ho : op.op = .store 23 x y) (hx : a.eval x = .pointer (some ⟨g, 33, none⟩)) (p : List UInt8) (hp : p.length = 32) (hy : a.eval y = .agg (p.map bV).toArray) (hh : HdOk h) (k : BlBox w g h tv)
    (hK : ∀ w', BlBox w' g { h with root := p } tv → w.grownBy w' (some g) → wpList Tryd.prog ops Q rest (a.put op.dst undef) w') : wpList Tryd.prog ops Q (op :: rest) a w := by
  refine wpList_store_part hgd 23 x y ho g 33 (nV h.ver :: h.prev.map bV) (h.root.map bV) [nV h.time, nV h.work, nV h.nonce, tv] (p.map bV) 37 (.agg (p.map bV).toArray) hx hy rfl (by simp [hh.2.1]) (by simp [hp, hh.2.2.1]) (by rw [k.row]; simp [blL, hdL]) (by rw [List.length_map, hp]; kernel_rfl) (bV_one' p) ?_
  intro w' q1 q2
  exact hK w' ⟨by rw [q1]; simp [blL, hdL]⟩ q2
theorem st_bltxs (hgd : op.guard = none) (x y : Operand) (ho : op.op = .store 35 x y) (hx : a.eval x = .pointer (some ⟨g, 68, none⟩)) (u : Value) (hy : a.eval y = u) (h1 : u.oneCell' = true) (hh : HdOk h) (k : BlBox w g h tv)
    (hK : ∀ w', BlBox w' g h u → w.grownBy w' (some g) → wpList Tryd.prog ops Q rest (a.put op.dst undef) w') : wpList Tryd.prog ops Q (op :: rest) a w := by
  refine wpList_store_part hgd 35 x y ho g 68 (hdL h) [tv] [] [u] 37 u hx hy (cells_one h1) (hdL_length hh) rfl (by rw [k.row]; simp [blL]) (by kernel_rfl) (by intro v hv; rw [List.mem_singleton] at hv; rw [hv]; exact h1) ?_
  intro w' q1 q2
  exact hK w' ⟨by rw [q1]; simp [blL]⟩ q2
end
theorem BlBox.far {w w' : World} {g : Nat} {h : THd} {tv : Value} {q : Option Nat} (k : BlBox w g h tv) (hg : w.grownBy w' q) (hq : q ≠ some g) : BlBox w' g h tv := ⟨row_far k.row hg hq⟩
/-- A row of one. -/
theorem txsAt_one {w : World} {g : Nat} {t : TTx} {iv ov : Value} {fr : Nat × Nat} (h : w.heap[g]? = some (.cells (txL t iv ov).toArray 32 fr)) (ht : TxAt w (.agg (txL t iv ov).toArray) t) : TxsAt w (.slice (some ⟨g, 0, none⟩) 1 1) [t] := by
  obtain ⟨h0, iv', ov', e, h1, h2⟩ := ht
  have e : txL t iv ov = txL t iv' ov' := by simpa using e
  refine ⟨_, _, rfl, Nat.le_refl _, fun _ => ⟨g, 0, rfl, fun i u hu => ?_⟩⟩
  obtain ⟨rfl, rfl⟩ : i = 0 ∧ t = u := by
    cases i with
    | zero => exact ⟨rfl, by simpa using hu⟩
    | succ i => simp at hu
  refine ⟨h0, iv', ov', fun j v hj => ?_, h1, h2⟩
  rw [cell_of_row _ _ _ _ _ _ h, List.getElem?_toArray, e]
  simpa using hj
end Go.Proofs.YtcghbogkplcohaaDoor.Sha

/-
  slices.Grow of nil, slices.Concat of two digests' bytes: new memory. Condition: the bytes lie where the slices say.
-/
namespace Go.Proofs.YtcghbogkplcohaaDoor.Sha
open Go Go.RowKit
set_option maxHeartbeats 1000000 in
set_option maxRecDepth 100000 in
theorem grow_nil (n : Nat) (w : World) (h0 : 0 < n) (h1 : n ≤ 70368744177664) :
    Calls Tryd.prog 28 #[.slice none 0 0, .int .i64 n] w fun e w' => ∃ cap, n ≤ cap ∧ e = .returned (.slice (some ⟨w.heap.size, 0, none⟩) 0 cap) ∧ w'.ownsRow w.heap.size 5 1 (.slice (some ⟨w.heap.size, 0, none⟩) 0 cap) 0 [] ∧ Below w.heap.size w w' := by
  obtain ⟨i0, hi, hz0, hz1, hz2⟩ := info_parts info_u8
  have hneg : ¬ ((n : Int) < 0) := by omega
  have hpos : (n : Int) > 0 := by omega
  have hrz : ∀ ty, (Builtin.append_ #[40, 3] ty #[.slice none 0 0, .int .i64 n]).run Tryd.prog w =
      .ok (.slice (some ⟨w.heap.size, 0, none⟩) n (grownCap w n 0 5)) (w.drew.alloc (.cells (Builtin.zeroCells #[.int .u8 0] n ++ Builtin.zeroCells #[.int .u8 0] (grownCap w n 0 5 - n)) 5)) := fun ty => by
    have h := Lib.run_append_grow_zeros (P := Tryd.prog) w 40 3 ty 5 i0 (.int .u8 0) .i64 .i64 Tryd.underlying40 Tryd.underlying3 hi hz0 none 0 0 []
      (by rw [hz1]; exact run_firstCells_none w.drew 1 0 0 0) n h0 (by rw [hz1]; omega) (by omega) (by omega) (by rw [hz2]; omega) (by rw [Nat.zero_add]; exact growslice_fits (by omega) (by rw [hz2]; omega))
    simp only [Nat.zero_add] at h
    rw [h]
    simp [Value.cells]
  have hG := grownCap_ge w n 0 5
  have hG63 := grownCap_le_maxLen w n 0 5 (by unfold maxLen; omega)
  obtain ⟨G, hGe⟩ : ∃ G, G = grownCap w n 0 5 := ⟨_, rfl⟩
  rw [← hGe] at hrz hG hG63
  have hsz : (Builtin.zeroCells #[.int .u8 0] n ++ Builtin.zeroCells #[.int .u8 0] (G - n)).size = G := by
    simp [Builtin.zeroCells]
    omega
  obtain ⟨cs, hcs⟩ : ∃ cs, cs = Builtin.zeroCells #[.int .u8 0] n ++ Builtin.zeroCells #[.int .u8 0] (G - n) := ⟨_, rfl⟩
  rw [← hcs] at hrz hsz
  have HS := Lib.hid hsz
  have hG63' : (G : Int) ≤ 9223372036854775807 := by unfold maxLen at hG63; omega
  clear hGe hcs hsz
  go_enter Tryd.func28, Tryd.ntmps28
  go_wp2_with (at_builtin; refine Lib.wpList_append_run _ rfl _ _ _ _ rfl _ _ rfl rfl _ _ (hrz _) ?_)
  go_ret
  refine ⟨G, hG, rfl, ⟨rfl, .inr ⟨w.heap.size, G, cs, rfl, Nat.le_refl _, ?_, Nat.zero_le _, hG63, by rw [HS.out, Nat.mul_one], by simp⟩⟩, ?_⟩
  · exact heap_alloc_new w.drew _
  · exact (Below.drew (Below.refl _ _)).alloc (Nat.le_refl _) _
set_option maxHeartbeats 1000000 in
set_option maxRecDepth 100000 in
theorem concat_two (a b : List UInt8) (ha : a.length = 32) (hb : b.length = 32) (gs g1 g2 : Nat) (w : World) (h0 : w.cell? ⟨gs, 0, none⟩ = some (.slice (some ⟨g1, 0, none⟩) 32 32)) (h1 : w.cell? ⟨gs, 1, none⟩ = some (.slice (some ⟨g2, 0, none⟩) 32 32))
    (s1 : SrcB w (.slice (some ⟨g1, 0, none⟩) 32 32) a) (s2 : SrcB w (.slice (some ⟨g2, 0, none⟩) 32 32) b) :
    Calls Tryd.prog 15 #[.slice (some ⟨gs, 0, none⟩) 2 2] w fun e w' => ∃ v, e = .returned v ∧ SrcB w' v (a ++ b) ∧ Below w.heap.size w w' := by
  obtain ⟨i0, hi, hz0, hz1, hz2⟩ := info_parts info_u8
  have HA := Lib.hid ha
  have HB := Lib.hid hb
  have S1 := Lib.hid s1
  have S2 := Lib.hid s2
  have hlt := World.block_lt_of_cell? w _ h0
  simp only at hlt
  have H0 := Lib.hid h0
  have H1 := Lib.hid h1
  clear ha hb s1 s2
  go_enter Tryd.func15, Tryd.ntmps15
  go_wp2_with fail
  refine wp_loop_rounds 3 ?_
  rw [rounds_succ]
  go_wp2_with fail
  rw [rounds_succ]
  go_wp2_with fail
  rw [rounds_succ]
  go_wp2_with fail
  refine (grow_nil 64 w (by omega) (by omega)).mono ?_
  rintro e w1 ⟨cap, hcap, rfl, ho, hb1⟩
  have c0 : w1.cell? ⟨gs, 0, none⟩ = some (.slice (some ⟨g1, 0, none⟩) 32 32) := by rw [hb1.cell (p := ⟨gs, 0, none⟩) hlt]; exact h0
  have HO := Lib.hid ho
  have HB1 := Lib.hid hb1
  have S1' := Lib.hid (S1.out.below hb1)
  clear ho hb1 h0 h1
  go_wp2_with fail
  refine wp_loop_rounds 3 ?_
  rw [rounds_succ]
  go_wp2_with (at_builtin; refine wpList_append_src _ rfl _ _ 40 rfl w.heap.size 5 i0 Tryd.underlying40 hi hz1 w.heap.size 0 cap [] rfl HO.out _ a rfl S1'.out (by have := HA.out; omega) ?_; intro w2 q1 q2; have HO2 : Hid (w2.ownsRow w.heap.size 5 1 (.slice (some ⟨w.heap.size, 0, none⟩) 32 cap) 32 (a.map bV)) := (by have h := q1.out; rw [HA.out, Nat.zero_add, List.nil_append] at h; exact h); have G2 := Lib.hid q2.out; clear q1 q2; rw [HA.out, Nat.zero_add]; have c1 : w2.cell? ⟨gs, 1, none⟩ = some (.slice (some ⟨g2, 0, none⟩) 32 32) := (by rw [World.cell?_of_block (G2.out.block gs (Nat.lt_of_lt_of_le hlt HB1.out.size) (fun e => by have := Option.some.inj e; omega)), HB1.out.cell (p := ⟨gs, 1, none⟩) hlt]; exact H1.out); clear c0; go_frame)
  have B2 := Lib.hid (HB1.out.grown G2.out HB1.out.size (fun k hk => by cases hk; exact Nat.le_refl _))
  have S2' := Lib.hid (S2.out.below B2.out)
  rw [rounds_succ]
  go_wp2_with (at_builtin; refine wpList_append_src _ rfl _ _ 40 rfl w.heap.size 5 i0 Tryd.underlying40 hi hz1 w.heap.size 32 cap (a.map bV) rfl HO2.out _ b rfl S2'.out (by have := HB.out; omega) ?_; intro w3 q1 q2; have HO3 : Hid (w3.ownsRow w.heap.size 5 1 (.slice (some ⟨w.heap.size, 0, none⟩) 64 cap) 64 ((a ++ b).map bV)) := (by have h := q1.out; rw [HB.out] at h; rw [List.map_append]; exact h); have G3 := Lib.hid q2.out; clear q1 q2; rw [HB.out]; go_frame)
  have B3 := Lib.hid (B2.out.grown G3.out B2.out.size (fun k hk => by cases hk; exact Nat.le_refl _))
  rw [rounds_succ]
  go_wp2_with fail
  go_ret
  exact ⟨_, rfl, src_own HO3.out, B3.out⟩
end Go.Proofs.YtcghbogkplcohaaDoor.Sha

/-
  slices.Concat of any two rows of bytes that are not both empty: new memory. Condition: the bytes lie where the slices say; few enough.
-/
namespace Go.Proofs.YtcghbogkplcohaaDoor.Sha
open Go Go.RowKit
set_option maxHeartbeats 1000000 in
set_option maxRecDepth 100000 in
theorem concat_any (a b : List UInt8) (v1 v2 : Value) (gs : Nat) (w : World) (h0 : w.cell? ⟨gs, 0, none⟩ = some v1) (h1 : w.cell? ⟨gs, 1, none⟩ = some v2) (s1 : SrcB w v1 a) (s2 : SrcB w v2 b) (hp : 0 < a.length) (ha : a.length ≤ 1000) (hb : b.length ≤ 70368744170000) :
    Calls Tryd.prog 15 #[.slice (some ⟨gs, 0, none⟩) 2 2] w fun e w' => ∃ gk nk ck, e = .returned (.slice (some ⟨gk, 0, none⟩) nk ck) ∧ w.heap.size ≤ gk ∧ KeyAt w' (.slice (some ⟨gk, 0, none⟩) nk ck) (a ++ b) ∧ Below w.heap.size w w' := by
  obtain ⟨i0, hi, hz0, hz1, hz2⟩ := info_parts info_u8
  obtain ⟨p1, n1, c1, rfl, hn1, _⟩ := s1.shape'
  obtain ⟨p2, n2, c2, rfl, hn2, _⟩ := s2.shape'
  have HA := Lib.hid hn1.symm
  have HB := Lib.hid hn2.symm
  have S1 := Lib.hid s1
  have S2 := Lib.hid s2
  have hlt := World.block_lt_of_cell? w _ h0
  simp only at hlt
  have H1 := Lib.hid h1
  rw [← hn1] at hp ha
  rw [← hn2] at hb
  obtain ⟨m, hm⟩ : ∃ m, m = n1 + n2 := ⟨_, rfl⟩
  have u1 : IntKind.i64.wrap (n1 : Int) = (n1 : Int) := IntWalk.i64_in _ (by omega)
  have u2 : IntKind.i64.wrap ((n1 : Int) + (n2 : Int)) = (m : Int) := by rw [IntWalk.i64_in _ (by omega)]; omega
  have u3 : (n1 : Int) + (n2 : Int) = (m : Int) := by omega
  have b1 : ¬ (n1 : Int) < 0 := by omega
  have b2 : ¬ (m : Int) < 0 := by omega
  have GN : Hid (Calls Tryd.prog 28 #[.slice none 0 0, .int .i64 m] w fun e w' => ∃ cap, m ≤ cap ∧ e = .returned (.slice (some ⟨w.heap.size, 0, none⟩) 0 cap) ∧ w'.ownsRow w.heap.size 5 1 (.slice (some ⟨w.heap.size, 0, none⟩) 0 cap) 0 [] ∧ Below w.heap.size w w') := grow_nil m w (by omega) (by omega)
  have HM := Lib.hid hm
  clear hm hn1 hn2 s1 s2
  go_enter Tryd.func15, Tryd.ntmps15
  go_wp2_with fail
  refine wp_loop_rounds 3 ?_
  rw [rounds_succ]
  go_wp2_with fail
  rw [rounds_succ]
  go_wp2_with fail
  rw [rounds_succ]
  go_wp2_with fail
  refine GN.out.mono ?_
  rintro e w1 ⟨cap, hcap, rfl, ho, hb1⟩
  have c0 : w1.cell? ⟨gs, 0, none⟩ = some (.slice p1 n1 c1) := by rw [hb1.cell (p := ⟨gs, 0, none⟩) hlt]; exact h0
  have HO := Lib.hid ho
  have HB1 := Lib.hid hb1
  have S1' := Lib.hid (S1.out.below hb1)
  have HC := Lib.hid hcap
  clear ho hb1 h0 h1 u1 u2 u3 b1 b2 hcap GN
  go_wp2_with fail
  refine wp_loop_rounds 3 ?_
  rw [rounds_succ]
  go_wp2_with (at_builtin; refine wpList_append_src _ rfl _ _ 40 rfl w.heap.size 5 i0 Tryd.underlying40 hi hz1 w.heap.size 0 cap [] rfl HO.out _ a rfl S1'.out (by have := HA.out; have := HC.out; have := HM.out; omega) ?_; intro w2 q1 q2; have HO2 : Hid (w2.ownsRow w.heap.size 5 1 (.slice (some ⟨w.heap.size, 0, none⟩) n1 cap) n1 (a.map bV)) := (by have h := q1.out; rw [HA.out, Nat.zero_add, List.nil_append] at h; exact h); have G2 := Lib.hid q2.out; clear q1 q2; rw [HA.out, Nat.zero_add]; have c1 : w2.cell? ⟨gs, 1, none⟩ = some (.slice p2 n2 c2) := (by rw [World.cell?_of_block (G2.out.block gs (Nat.lt_of_lt_of_le hlt HB1.out.size) (fun e => by have := Option.some.inj e; omega)), HB1.out.cell (p := ⟨gs, 1, none⟩) hlt]; exact H1.out); clear c0; go_frame)
  have B2 := Lib.hid (HB1.out.grown G2.out HB1.out.size (fun k hk => by cases hk; exact Nat.le_refl _))
  have S2' := Lib.hid (S2.out.below B2.out)
  rw [rounds_succ]
  go_wp2_with (at_builtin; refine wpList_append_src _ rfl _ _ 40 rfl w.heap.size 5 i0 Tryd.underlying40 hi hz1 w.heap.size n1 cap (a.map bV) rfl HO2.out _ b rfl S2'.out (by have := HB.out; have := HC.out; have := HM.out; omega) ?_; intro w3 q1 q2; have HO3 : Hid (w3.ownsRow w.heap.size 5 1 (.slice (some ⟨w.heap.size, 0, none⟩) (n1 + n2) cap) (n1 + n2) ((a ++ b).map bV)) := (by have h := q1.out; rw [HB.out] at h; rw [List.map_append]; exact h); have G3 := Lib.hid q2.out; clear q1 q2; rw [HB.out]; go_frame)
  have B3 := Lib.hid (B2.out.grown G3.out B2.out.size (fun k hk => by cases hk; exact Nat.le_refl _))
  rw [rounds_succ]
  go_wp2_with fail
  go_ret
  exact ⟨w.heap.size, n1 + n2, cap, rfl, Nat.le_refl _, ⟨src_own HO3.out, some ⟨w.heap.size, 0, none⟩, cap, by rw [List.length_append, HA.out, HB.out]⟩, B3.out⟩
end Go.Proofs.YtcghbogkplcohaaDoor.Sha

/-
  What literals of transactions, inputs, outputs and places lay. No conditions beyond those that each states.
-/
namespace Go.Proofs.YtcghbogkplcohaaDoor.Sha
open Go Go.RowKit
def zH : List UInt8 := List.replicate 32 0
theorem zH_length : zH.length = 32 := rfl
theorem built_ptn (n : Nat) : Tryd.prog.built 39 [(1, .int .u32 (n : Int))] = some (ptL zH n).toArray := by kernel_rfl
theorem built_inp (x : TIn) (hx : x.h.length = 32) (hs : x.seq = 0) : Tryd.prog.built 42 [(0, .agg (ptL x.h x.n).toArray)] = some (inL x (.slice none 0 0)).toArray := by
  have hz : ∀ parts, Tryd.prog.built 42 parts = Instr.fill ([(0, 33), (33, 1), (34, 1)].toArray[·]?) (List.replicate 32 (bV 0) ++ [nV 0, .slice none 0 0, nV 0]).toArray parts := fun parts => by kernel_rfl
  have hl : (ptL x.h x.n).length = 33 := by simp [ptL, hx]
  rw [hz, fill_part _ 0 0 (.agg (ptL x.h x.n).toArray) (ptL x.h x.n) _ _ rfl (by rw [hl]; rfl) (by rw [hl]; simp)]
  rw [List.take_zero, List.nil_append, Nat.zero_add, hl, inL, hs]
  rfl
theorem built_ink (x : TIn) (hx : x.h.length = 32) (kv : Value) (hk : kv.oneCell' = true) (hs : x.seq = 0) : Tryd.prog.built 42 [(0, .agg (ptL x.h x.n).toArray), (1, kv)] = some (inL x kv).toArray := by
  have hz : ∀ parts, Tryd.prog.built 42 parts = Instr.fill ([(0, 33), (33, 1), (34, 1)].toArray[·]?) (List.replicate 32 (bV 0) ++ [nV 0, .slice none 0 0, nV 0]).toArray parts := fun parts => by kernel_rfl
  have hl : (ptL x.h x.n).length = 33 := by simp [ptL, hx]
  rw [hz, fill_part _ 0 0 (.agg (ptL x.h x.n).toArray) (ptL x.h x.n) _ _ rfl (by rw [hl]; rfl) (by rw [hl]; simp)]
  rw [List.take_zero, List.nil_append, Nat.zero_add, hl]
  rw [fill_part _ 1 33 kv [kv] _ _ (cells_one hk) rfl (by simp [hl])]
  have e : List.drop (33 + [kv].length) (ptL x.h x.n ++ List.drop 33 (List.replicate 32 (bV 0) ++ [nV 0, .slice none 0 0, nV 0])) = [nV 0] := by
    rw [show 33 + [kv].length = (ptL x.h x.n).length + 1 by rw [hl]; rfl, ← List.drop_drop, List.drop_left]
    rfl
  rw [List.take_append_of_le_length (by omega), List.take_of_length_le (by omega), e, inL, hs]
  rw [List.append_assoc]
  rfl
theorem built_txs (iv ov : Value) (h1 : iv.oneCell' = true) (h2 : ov.oneCell' = true) : Tryd.prog.built 32 [(1, iv), (2, ov)] = some [nV 0, iv, ov, nV 0].toArray := by
  have hz : ∀ parts, Tryd.prog.built 32 parts = Instr.fill ([(0, 1), (1, 1), (2, 1), (3, 1)].toArray[·]?) [nV 0, .slice none 0 0, .slice none 0 0, nV 0].toArray parts := fun parts => by kernel_rfl
  rw [hz, fill_part _ 1 1 iv [iv] _ _ (cells_one h1) rfl (by simp), fill_part _ 2 2 ov [ov] _ _ (cells_one h2) rfl (by simp)]
  rfl
theorem built_outv (v : Nat) : Tryd.prog.built 44 [(0, .int .u64 (v : Int))] = some (outL ⟨v, zH⟩).toArray := by kernel_rfl
theorem built_out0 : Tryd.prog.built 44 [] = some (outL ⟨0, zH⟩).toArray := by kernel_rfl
end Go.Proofs.YtcghbogkplcohaaDoor.Sha

/-
  Package tx tells how many bytes a transaction has, and how long its longest key is. Nothing that was there turns. Condition: a transaction of a few inputs and outputs that lies in memory.
-/
namespace Go.Proofs.YtcghbogkplcohaaDoor.Sha
open Go Go.RowKit
def SzInv (n : Nat) (A : Nat) (t : TTx) (w1 : World) (vs vi : Value) (wr : World) : Prop :=
  ∃ k s : Nat, k ≤ n ∧ vi = .int .i64 k ∧ s = A + (insB (t.ins.take k)).length ∧ vs = .int .i64 s ∧ Below w1.heap.size w1 wr
set_option maxHeartbeats 1000000 in
set_option maxRecDepth 100000 in
theorem size_all : SizeC := by
  intro t v w h1 hs
  have h1' := h1
  obtain ⟨ht0, iv, ov, rfl, hti, hto⟩ := h1
  obtain ⟨si, ci, rfl, hci, hti⟩ := hti
  obtain ⟨so, co, rfl, hco, hto⟩ := hto
  have HTI := Lib.hid hti
  have HTO := Lib.hid hto
  obtain ⟨ni, hn1⟩ : ∃ ni, ni = t.ins.length := ⟨_, rfl⟩
  obtain ⟨no, hn2⟩ : ∃ no, no = t.outs.length := ⟨_, rfl⟩
  obtain ⟨vt, hvt⟩ : ∃ vt, vt = t.ver := ⟨_, rfl⟩
  obtain ⟨tt, htt⟩ : ∃ tt, tt = t.time := ⟨_, rfl⟩
  have NI := Lib.hid hn1
  have NO := Lib.hid hn2
  have VT := Lib.hid hvt
  have TT := Lib.hid htt
  have TS := Lib.hid hs
  have bni : ni ≤ 1000 := by rw [hn1]; exact hs.2.1
  have bno : no ≤ 1000 := by rw [hn2]; exact hs.2.2.1
  simp only [txL, ← hn1, ← hn2, ← hvt, ← htt] at h1' ⊢
  have H1 := Lib.hid h1'
  clear hn1 hn2 hci hco hvt htt ht0 hti hto h1' hs
  
  go_enter Tryd.func33, Tryd.ntmps33
  go_upto_region 1 with fail
  have F := Lib.hid (heap_alloc_new w (.cells [nV vt, .slice si ni ci, .slice so no co, nV tt].toArray 32 (0, 0)))
  have B0 := Lib.hid ((Below.refl w.heap.size w).alloc (Nat.le_refl _) (.cells [nV vt, .slice si ni ci, .slice so no co, nV tt].toArray 32 (0, 0)))
  generalize hw1 : World.alloc _ _ = w1
  have e1 : w.alloc (.cells [nV vt, .slice si ni ci, .slice so no co, nV tt].toArray 32 (0, 0)) = w1 := hw1
  rw [e1] at F B0
  clear hw1 e1
  have BOX : Hid (∀ w', Below w1.heap.size w1 w' → ∀ j v, [nV vt, .slice si ni ci, .slice so no co, nV tt][j]? = some v → w'.cell? ⟨w.heap.size, j, none⟩ = some v) := fun w' hw' j v hj => by
    rw [cell_of_row _ _ _ _ _ _ (row_below F.out hw'), List.getElem?_toArray]
    exact hj
  obtain ⟨li, hli⟩ : ∃ li, li = lenN ni := ⟨_, rfl⟩
  obtain ⟨lo, hlo⟩ : ∃ lo, lo = lenN no := ⟨_, rfl⟩
  have bli : li ≤ 9 := by have := lenN_bd ni; omega
  have blo : lo ≤ 9 := by have := lenN_bd no; omega
  have LI := Lib.hid hli
  have LO := Lib.hid hlo
  have CI : Hid (∀ w, Calls Tryd.prog 32 #[.int .u64 (ni : Int)] w fun e w' => e = .returned (.int .i64 (li : Int)) ∧ w' = w) := fun w => by rw [LI.out]; exact same_of (len_c ni w)
  have CO : Hid (∀ w, Calls Tryd.prog 32 #[.int .u64 (no : Int)] w fun e w' => e = .returned (.int .i64 (lo : Int)) ∧ w' = w) := fun w => by rw [LO.out]; exact same_of (len_c no w)
  have c1 : w1.cell? ⟨w.heap.size, 1, none⟩ = some (.slice si ni ci) := BOX.out w1 (Below.refl _ _) 1 _ rfl
  have c2 : w1.cell? ⟨w.heap.size, 2, none⟩ = some (.slice so no co) := BOX.out w1 (Below.refl _ _) 2 _ rfl
  clear hli hlo
  have u1 := @u64_stays (ni : Int) (by omega)
  have u2 := @u64_stays (no : Int) (by omega)
  have u3 := @i64_stays (8 + (li : Int)) (by omega)
  have u4 := @i64_stays (8 + (li : Int) + (lo : Int)) (by omega)
  go_quiet ((first | (go_at_call 32; with_reducible exact Calls.quiet_of_same (CI.out _)) | (go_at_call 32; with_reducible exact Calls.quiet_of_same (CO.out _))))
  clear u1 u2 u3 u4
  go_wp2_with fail
  obtain ⟨A, hA⟩ : ∃ A, A = 8 + li + lo := ⟨_, rfl⟩
  have HA := Lib.hid hA
  have hA2 : (8 : Int) + (li : Int) + (lo : Int) = (A : Int) := by omega
  rw [hA2]
  have bA : A ≤ 26 := by omega
  clear hA hA2 c1 c2 bli blo
  go_loopw [3, 21] (fun vs vi wr => SzInv ni A t w1 vs vi wr) (fun _ i _ => ni - (intOf i).toNat)
  case atStart => exact ⟨0, A, by omega, rfl, by simp [insB], rfl, below_drewN (Below.refl _ _) _⟩
  case round =>
    obtain ⟨k, s, hk, rfl, hs, rfl, B⟩ := hrel
    have B := Lib.hid B
    have HSm := Lib.hid hs
    clear hs
    by_cases hlt : k < ni
    · have hkx : k < t.ins.length := by have := NI.out; omega
      obtain ⟨b1, o1, hs1, he1⟩ := HTI.out (by omega)
      have g1 := he1 k _ (List.getElem?_eq_getElem hkx)
      obtain ⟨x, hx⟩ : ∃ x, x = t.ins[k] := ⟨_, rfl⟩
      rw [← hx] at g1
      have hgx : t.ins[k]? = some x := by rw [hx]; exact List.getElem?_eq_getElem _
      obtain ⟨hx1, kx, hkx2, hr1⟩ := g1
      obtain ⟨sx, cx, hkv⟩ := hkx2.2
      obtain ⟨kl, hkl⟩ : ∃ kl, kl = x.key.length := ⟨_, rfl⟩
      rw [← hkl] at hkv
      subst hkv
      have p0 : 0 ≤ (k : Int) := by omega
      have q0 : (k : Int) < (ni : Int) := by omega
      have bkl : kl ≤ 100000 := by rw [hkl]; exact TS.out.2.2.2 x (List.mem_of_getElem? hgx)
      have R1 := Lib.hid (range_below (range_below hr1 B0.out) B.out)
      have KW := Lib.hid ((hkx2.1.below B0.out).below B.out)
      have GX := Lib.hid hgx
      have KL := Lib.hid hkl
      have XOK := Lib.hid hx1
      have ONE := Lib.hid (in_one x (.slice sx kl cx) rfl)
      have LX : Hid ((inL x (.slice sx kl cx)).length = 35) := inL_length x _ hx1.1
      have LX' : Hid ((inL x (.slice sx kl cx)).toArray.size = 35) := by show _ = _; rw [List.size_toArray]; exact LX.out
      subst hs1
      clear hx hgx he1 hx1 hkx2 hr1 hkl hkx
      obtain ⟨g5, hg5⟩ : ∃ g5, g5 = wr.heap.size := ⟨_, rfl⟩
      obtain ⟨_, f2, f3, f4⟩ := fill_setup (Below.refl wr.heap.size wr) (List.replicate 32 (bV 0) ++ [nV 0, .slice none 0 0, nV 0]).toArray (inL x (.slice sx kl cx)).toArray 42
      go_upto_region 5 with ((with_reducible show wpList _ _ _ _ _ _); first | (refine wpList_load_mid rfl 42 (.tmp 23) rfl b1 (o1 + k * 35) rfl (inL x (.slice sx kl cx)) _ R1.out Tryd.underlying42 rfl (by rw [LX.out]; kernel_rfl) ?_; go_frame) | (refine wpList_store_row rfl 42 (.tmp 5) (.tmp 24) rfl wr.heap.size (inL x (.slice sx kl cx)).toArray rfl rfl 42 _ (heap_alloc_new _ _) (by rw [LX'.out]; kernel_rfl) (by rw [LX'.out]; rfl) ONE.out ?_; go_frame))
      rw [← hg5] at f2 f3 f4 ⊢
      generalize hw5 : World.setRow _ _ _ = w5
      have e5 : World.setRow (wr.alloc (.cells (List.replicate 32 (bV 0) ++ [nV 0, .slice none 0 0, nV 0]).toArray 42)) g5 (inL x (.slice sx kl cx)).toArray = w5 := hw5
      rw [e5] at f2 f4
      rw [hg5] at f4
      have F5 := Lib.hid f2
      have N5 := Lib.hid f4
      have B5 := Lib.hid (B.out.trans (f4.mono B.out.size))
      have G5 := Lib.hid hg5
      have IN5 : Hid (∀ (j : Nat) (u : Value), (inL x (.slice sx kl cx))[j]? = some u → w5.cell? ⟨g5, j, none⟩ = some u) := fun j u hj => by
        rw [cell_of_row _ _ _ _ _ _ F5.out, List.getElem?_toArray]
        exact hj
      have X33 : Hid ((inL x (.slice sx kl cx))[33]? = some (.slice sx kl cx)) := by show _ = _; rw [inL, List.getElem?_append_right (by simp [ptL, XOK.out.1])]; simp [ptL, XOK.out.1]
      clear f2 f3 f4 hg5 hw5 e5

      have c5 : w5.cell? ⟨g5, 33, none⟩ = some (.slice sx kl cx) := IN5.out 33 _ X33.out
      obtain ⟨lk, hlk⟩ : ∃ lk, lk = lenN kl := ⟨_, rfl⟩
      have blk : lk ≤ 9 := by have := lenN_bd kl; omega
      have LK := Lib.hid hlk
      have CK : Hid (∀ w, Calls Tryd.prog 32 #[.int .u64 (kl : Int)] w fun e w' => e = .returned (.int .i64 (lk : Int)) ∧ w' = w) := fun w => by rw [LK.out]; exact same_of (len_c kl w)
      have HI : Hid ((inB x).length = 40 + lk + kl) := by show _ = _; rw [inB_length x XOK.out, LK.out, KL.out]
      have bs : s + 40 + lk + kl ≤ 300000000 := by
        have h1 := ins_part GX.out
        have h2 := TS.out.ins0
        have h3 := HI.out
        have h4 := HSm.out
        omega
      clear hlk
      have u1 := @u64_stays (kl : Int) (by omega)
      have u2 := @i64_stays (40 + (lk : Int)) (by omega)
      have u3 := @i64_stays (40 + (lk : Int) + (kl : Int)) (by omega)
      have u4 := @i64_stays ((s : Int) + (40 + (lk : Int) + (kl : Int))) (by omega)
      go_quiet ((go_at_call 32; with_reducible exact Calls.quiet_of_same (CK.out _)))
      clear u1 u2 u3 u4 c5
      go_wp2_with fail
      go_roundw
      case rel =>
        refine ⟨k + 1, s + (40 + lk + kl), by omega, by go_num, ?_, by go_num, below_drewN B5.out _⟩
        rw [ins_snoc GX.out, List.length_append, HI.out, HSm.out]
        omega
      case measure => simp [intOf]; omega
    · have hkn : k = ni := by omega
      have hge : ¬ (k : Int) < (ni : Int) := by omega
      have c2 : wr.cell? ⟨w.heap.size, 2, none⟩ = some (.slice so no co) := BOX.out wr B.out 2 _ rfl
      have hs2 : s = A + (insB t.ins).length := by rw [HSm.out, hkn, NI.out, List.take_length]
      have hs3 := TS.out.bytes
      rw [← NI.out, ← NO.out, ← LI.out, ← LO.out] at hs3
      have HR : Hid ((txB t).length = s + 40 * no) := by show _ = _; have := HA.out; omega
      have bs : s ≤ 300000000 := by have := TS.out.ins0; omega
      clear hkn hs2 hs3
      go_wp2_with fail
      go_ret
      exact ⟨ret_int (by rw [HR.out]; omega), B0.out.trans (B.out.mono B0.out.size)⟩
end Go.Proofs.YtcghbogkplcohaaDoor.Sha

/-
  Package tx tells how long the longest key of a transaction is, and whether a number is between two. Nothing that was there turns. Condition: a transaction of a few inputs and outputs that lies in memory.
-/
namespace Go.Proofs.YtcghbogkplcohaaDoor.Sha
open Go Go.RowKit
set_option maxRecDepth 100000 in
theorem between_any (n : Nat) (b : Bool) (hb : b = (decide (1 ≤ n) && decide (n ≤ 50))) (w : World) (hn : n ≤ 1000) :
    Calls Tryd.prog 47 #[.int .i64 (n : Int), .int .i64 1, .int .i64 50] w fun e w' => e = .returned (.bool b) ∧ w = w' := by
  by_cases h1 : 1 ≤ n
  · have c1 : (1 : Int) ≤ (n : Int) := by omega
    have c1' : decide ((1 : Int) ≤ (n : Int)) = true := decide_eq_true c1
    by_cases h2 : n ≤ 50
    · have c2 : (n : Int) ≤ 50 := by omega
      have c2' : decide ((n : Int) ≤ 50) = true := decide_eq_true c2
      obtain rfl : b = true := by rw [hb]; simp [h1, h2]
      clear hb
      go_enter Tryd.func47, Tryd.ntmps47
      go_wp2_with fail
      go_ret
      exact ⟨rfl, rfl⟩
    · have c2 : ¬ (n : Int) ≤ 50 := by omega
      have c2' : decide ((n : Int) ≤ 50) = false := decide_eq_false c2
      obtain rfl : b = false := by rw [hb]; simp [h2]
      clear hb h2
      go_enter Tryd.func47, Tryd.ntmps47
      go_wp2_with fail
      go_ret
      exact ⟨rfl, rfl⟩
  · have c1 : ¬ (1 : Int) ≤ (n : Int) := by omega
    have c1' : decide ((1 : Int) ≤ (n : Int)) = false := decide_eq_false c1
    obtain rfl : b = false := by rw [hb]; simp [h1]
    clear hb h1
    go_enter Tryd.func47, Tryd.ntmps47
    go_wp2_with fail
    go_ret
    exact ⟨rfl, rfl⟩
/-- The longest key of so many inputs. -/
def mostKey (l : List TIn) : Nat := l.foldl (fun m x => max m x.key.length) 0
theorem mostKey_snoc {l : List TIn} {k : Nat} {x : TIn} (h : l[k]? = some x) : mostKey (l.take (k + 1)) = max (mostKey (l.take k)) x.key.length := by
  have hk := List.getElem?_eq_some_iff.1 h
  rw [List.take_succ_eq_append_getElem hk.1, hk.2]
  simp [mostKey, List.foldl_append]
theorem fold_key : ∀ (l : List TIn) (m : Nat), (80 < l.foldl (fun m x => max m x.key.length) m) ↔ (80 < m ∨ ∃ x ∈ l, 80 < x.key.length)
  | [], m => by simp
  | x :: l, m => by
    rw [List.foldl_cons, fold_key l]
    simp only [List.mem_cons, exists_eq_or_imp]
    constructor
    · rintro (h | h)
      · by_cases hm : 80 < m
        · exact .inl hm
        · exact .inr (.inl (by omega))
      · exact .inr (.inr h)
    · rintro (h | h | h)
      · exact .inl (by omega)
      · exact .inl (by omega)
      · exact .inr h
theorem mostKey_over (l : List TIn) : l.any (fun x => decide (80 < x.key.length)) = decide (80 < mostKey l) := by
  rw [Bool.eq_iff_iff, List.any_eq_true, decide_eq_true_eq, mostKey, fold_key]
  simp
def LkInv (n : Nat) (t : TTx) (w1 : World) (vs vi : Value) (wr : World) : Prop :=
  ∃ k s : Nat, k ≤ n ∧ vi = .int .i64 k ∧ s = mostKey (t.ins.take k) ∧ s ≤ 100000 ∧ vs = .int .i64 s ∧ Below w1.heap.size w1 wr
set_option maxHeartbeats 1000000 in
set_option maxRecDepth 100000 in
theorem longest_any (t : TTx) (v : Value) (w : World) (h1 : TxAt w v t) (hs : TxSmall t) (m : Nat) (hm : m = mostKey t.ins) :
    Calls Tryd.prog 48 #[v] w fun e w' => e = .returned (.int .i64 (m : Int)) ∧ Below w.heap.size w w' := by
  have HM := Lib.hid hm
  clear hm
  have h1' := h1
  obtain ⟨ht0, iv, ov, rfl, hti, hto⟩ := h1
  obtain ⟨si, ci, rfl, hci, hti⟩ := hti
  obtain ⟨so, co, rfl, hco, hto⟩ := hto
  have HTI := Lib.hid hti
  have HTO := Lib.hid hto
  obtain ⟨ni, hn1⟩ : ∃ ni, ni = t.ins.length := ⟨_, rfl⟩
  obtain ⟨no, hn2⟩ : ∃ no, no = t.outs.length := ⟨_, rfl⟩
  obtain ⟨vt, hvt⟩ : ∃ vt, vt = t.ver := ⟨_, rfl⟩
  obtain ⟨tt, htt⟩ : ∃ tt, tt = t.time := ⟨_, rfl⟩
  have NI := Lib.hid hn1
  have NO := Lib.hid hn2
  have VT := Lib.hid hvt
  have TT := Lib.hid htt
  have TS := Lib.hid hs
  have bni : ni ≤ 1000 := by rw [hn1]; exact hs.2.1
  have bno : no ≤ 1000 := by rw [hn2]; exact hs.2.2.1
  simp only [txL, ← hn1, ← hn2, ← hvt, ← htt] at h1' ⊢
  have H1 := Lib.hid h1'
  clear hn1 hn2 hci hco hvt htt ht0 hti hto h1' hs
  
  go_enter Tryd.func48, Tryd.ntmps48
  go_upto_region 1 with fail
  have F := Lib.hid (heap_alloc_new w (.cells [nV vt, .slice si ni ci, .slice so no co, nV tt].toArray 32 (0, 0)))
  have B0 := Lib.hid ((Below.refl w.heap.size w).alloc (Nat.le_refl _) (.cells [nV vt, .slice si ni ci, .slice so no co, nV tt].toArray 32 (0, 0)))
  generalize hw1 : World.alloc _ _ = w1
  have e1 : w.alloc (.cells [nV vt, .slice si ni ci, .slice so no co, nV tt].toArray 32 (0, 0)) = w1 := hw1
  rw [e1] at F B0
  clear hw1 e1
  have BOX : Hid (∀ w', Below w1.heap.size w1 w' → ∀ j v, [nV vt, .slice si ni ci, .slice so no co, nV tt][j]? = some v → w'.cell? ⟨w.heap.size, j, none⟩ = some v) := fun w' hw' j v hj => by
    rw [cell_of_row _ _ _ _ _ _ (row_below F.out hw'), List.getElem?_toArray]
    exact hj
  have c1 : w1.cell? ⟨w.heap.size, 1, none⟩ = some (.slice si ni ci) := BOX.out w1 (Below.refl _ _) 1 _ rfl
  go_wp2_with fail
  clear c1
  go_loopw [2, 8] (fun vs vi wr => LkInv ni t w1 vs vi wr) (fun _ i _ => ni - (intOf i).toNat)
  case atStart => exact ⟨0, 0, by omega, rfl, rfl, by omega, rfl, Below.refl _ _⟩
  case round =>
    obtain ⟨k, s, hk, rfl, hs, bs, rfl, B⟩ := hrel
    have B := Lib.hid B
    have HSm := Lib.hid hs
    clear hs
    by_cases hlt : k < ni
    · have hkx : k < t.ins.length := by have := NI.out; omega
      obtain ⟨b1, o1, hs1, he1⟩ := HTI.out (by omega)
      have g1 := he1 k _ (List.getElem?_eq_getElem hkx)
      obtain ⟨x, hx⟩ : ∃ x, x = t.ins[k] := ⟨_, rfl⟩
      rw [← hx] at g1
      have hgx : t.ins[k]? = some x := by rw [hx]; exact List.getElem?_eq_getElem _
      obtain ⟨hx1, kx, hkx2, hr1⟩ := g1
      obtain ⟨sx, cx, hkv⟩ := hkx2.2
      obtain ⟨kl, hkl⟩ : ∃ kl, kl = x.key.length := ⟨_, rfl⟩
      rw [← hkl] at hkv
      subst hkv
      have p0 : 0 ≤ (k : Int) := by omega
      have q0 : (k : Int) < (ni : Int) := by omega
      have bkl : kl ≤ 100000 := by rw [hkl]; exact TS.out.2.2.2 x (List.mem_of_getElem? hgx)
      have R1 := Lib.hid (range_below (range_below hr1 B0.out) B.out)
      have KW := Lib.hid ((hkx2.1.below B0.out).below B.out)
      have GX := Lib.hid hgx
      have KL := Lib.hid hkl
      have XOK := Lib.hid hx1
      have ONE := Lib.hid (in_one x (.slice sx kl cx) rfl)
      have LX : Hid ((inL x (.slice sx kl cx)).length = 35) := inL_length x _ hx1.1
      have LX' : Hid ((inL x (.slice sx kl cx)).toArray.size = 35) := by show _ = _; rw [List.size_toArray]; exact LX.out
      subst hs1
      clear hx hgx he1 hx1 hkx2 hr1 hkl hkx
      obtain ⟨g5, hg5⟩ : ∃ g5, g5 = wr.heap.size := ⟨_, rfl⟩
      obtain ⟨_, f2, f3, f4⟩ := fill_setup (Below.refl wr.heap.size wr) (List.replicate 32 (bV 0) ++ [nV 0, .slice none 0 0, nV 0]).toArray (inL x (.slice sx kl cx)).toArray 42
      go_upto_region 4 with ((with_reducible show wpList _ _ _ _ _ _); first | (refine wpList_load_mid rfl 42 (.tmp 10) rfl b1 (o1 + k * 35) rfl (inL x (.slice sx kl cx)) _ R1.out Tryd.underlying42 rfl (by rw [LX.out]; kernel_rfl) ?_; go_frame) | (refine wpList_store_row rfl 42 (.tmp 4) (.tmp 11) rfl wr.heap.size (inL x (.slice sx kl cx)).toArray rfl rfl 42 _ (heap_alloc_new _ _) (by rw [LX'.out]; kernel_rfl) (by rw [LX'.out]; rfl) ONE.out ?_; go_frame))
      rw [← hg5] at f2 f3 f4 ⊢
      generalize hw5 : World.setRow _ _ _ = w5
      have e5 : World.setRow (wr.alloc (.cells (List.replicate 32 (bV 0) ++ [nV 0, .slice none 0 0, nV 0]).toArray 42)) g5 (inL x (.slice sx kl cx)).toArray = w5 := hw5
      rw [e5] at f2 f4
      rw [hg5] at f4
      have F5 := Lib.hid f2
      have N5 := Lib.hid f4
      have B5 := Lib.hid (B.out.trans (f4.mono B.out.size))
      have G5 := Lib.hid hg5
      have IN5 : Hid (∀ (j : Nat) (u : Value), (inL x (.slice sx kl cx))[j]? = some u → w5.cell? ⟨g5, j, none⟩ = some u) := fun j u hj => by
        rw [cell_of_row _ _ _ _ _ _ F5.out, List.getElem?_toArray]
        exact hj
      have X33 : Hid ((inL x (.slice sx kl cx))[33]? = some (.slice sx kl cx)) := by show _ = _; rw [inL, List.getElem?_append_right (by simp [ptL, XOK.out.1])]; simp [ptL, XOK.out.1]
      clear f2 f3 f4 hg5 hw5 e5
      have c5 : w5.cell? ⟨g5, 33, none⟩ = some (.slice sx kl cx) := IN5.out 33 _ X33.out
      by_cases hgt : s < kl
      · have hg : (s : Int) < (kl : Int) := by omega
        have HX : Hid (mostKey (t.ins.take (k + 1)) = kl) := by show _ = _; rw [mostKey_snoc GX.out, ← HSm.out, ← KL.out]; omega
        clear hgt
        go_wp2_with fail
        go_roundw
        case rel => exact ⟨k + 1, kl, by omega, by go_num, HX.out.symm, by omega, (by first | rfl | exact congrArg (Value.int .i64) (by omega)), B5.out⟩
        case measure => simp [intOf]; omega
      · have hg : ¬ (s : Int) < (kl : Int) := by omega
        have HX : Hid (mostKey (t.ins.take (k + 1)) = s) := by show _ = _; rw [mostKey_snoc GX.out, ← HSm.out, ← KL.out]; omega
        clear hgt
        go_wp2_with fail
        go_roundw
        case rel => exact ⟨k + 1, s, by omega, by go_num, HX.out.symm, by omega, (by first | rfl | exact congrArg (Value.int .i64) (by omega)), B5.out⟩
        case measure => simp [intOf]; omega
    · have hkn : k = ni := by omega
      have hge : ¬ (k : Int) < (ni : Int) := by omega
      have hs2 : s = m := by rw [HSm.out, hkn, NI.out, List.take_length, HM.out]
      clear hkn
      subst hs2
      go_wp2_with fail
      go_ret
      exact ⟨rfl, B0.out.trans (B.out.mono B0.out.size)⟩
end Go.Proofs.YtcghbogkplcohaaDoor.Sha

/-
  Package tx tells whether the amounts of a transaction are one that can be. Nothing that was there turns. Condition: a transaction of a few inputs and outputs that lies in memory.
-/
namespace Go.Proofs.YtcghbogkplcohaaDoor.Sha
open Go Go.RowKit
def AddInv (base n : Nat) (t : TTx) (w1 : World) (vb vi : Value) (wr : World) : Prop :=
  ∃ (k : Nat) (vq : Value), vq = vb ∧ k ≤ n ∧ vi = .int .i64 k ∧ Below w1.heap.size w1 wr ∧ wr.ownsRow base 34 1 vq k (((t.outs.take k).map (·.val)).map uV)
set_option maxHeartbeats 1000000 in
set_option maxRecDepth 100000 in
theorem adds_any (t : TTx) (v : Value) (w : World) (h1 : TxAt w v t) (hs : TxSmall t) (b : Bool) (hb : b = sumIs (t.outs.map (·.val))) :
    Calls Tryd.prog 49 #[v] w fun e w' => e = .returned (.bool b) ∧ Below w.heap.size w w' := by
  have HBb := Lib.hid hb
  clear hb
  obtain ⟨i0, hi, hz0, hz1, hz2⟩ := info_parts info_u64v
  have h1' := h1
  obtain ⟨ht0, iv, ov, rfl, hti, hto⟩ := h1
  obtain ⟨si, ci, rfl, hci, hti⟩ := hti
  obtain ⟨so, co, rfl, hco, hto⟩ := hto
  have HTI := Lib.hid hti
  have HTO := Lib.hid hto
  obtain ⟨ni, hn1⟩ : ∃ ni, ni = t.ins.length := ⟨_, rfl⟩
  obtain ⟨no, hn2⟩ : ∃ no, no = t.outs.length := ⟨_, rfl⟩
  obtain ⟨vt, hvt⟩ : ∃ vt, vt = t.ver := ⟨_, rfl⟩
  obtain ⟨tt, htt⟩ : ∃ tt, tt = t.time := ⟨_, rfl⟩
  have NI := Lib.hid hn1
  have NO := Lib.hid hn2
  have VT := Lib.hid hvt
  have TT := Lib.hid htt
  have TS := Lib.hid hs
  have bni : ni ≤ 1000 := by rw [hn1]; exact hs.2.1
  have bno : no ≤ 1000 := by rw [hn2]; exact hs.2.2.1
  simp only [txL, ← hn1, ← hn2, ← hvt, ← htt] at h1' ⊢
  have H1 := Lib.hid h1'
  clear hn1 hn2 hci hco hvt htt ht0 hti hto h1' hs
  
  go_enter Tryd.func49, Tryd.ntmps49
  go_upto_region 1 with fail
  have F := Lib.hid (heap_alloc_new w (.cells [nV vt, .slice si ni ci, .slice so no co, nV tt].toArray 32 (0, 0)))
  have B0 := Lib.hid ((Below.refl w.heap.size w).alloc (Nat.le_refl _) (.cells [nV vt, .slice si ni ci, .slice so no co, nV tt].toArray 32 (0, 0)))
  generalize hw1 : World.alloc _ _ = w1
  have e1 : w.alloc (.cells [nV vt, .slice si ni ci, .slice so no co, nV tt].toArray 32 (0, 0)) = w1 := hw1
  rw [e1] at F B0
  clear hw1 e1
  have BOX : Hid (∀ w', Below w1.heap.size w1 w' → ∀ j v, [nV vt, .slice si ni ci, .slice so no co, nV tt][j]? = some v → w'.cell? ⟨w.heap.size, j, none⟩ = some v) := fun w' hw' j v hj => by
    rw [cell_of_row _ _ _ _ _ _ (row_below F.out hw'), List.getElem?_toArray]
    exact hj
  obtain ⟨base, hbase⟩ : ∃ base, base = w1.heap.size := ⟨_, rfl⟩
  have HBS : Hid (w1.heap.size ≤ base) := by rw [hbase]; exact Nat.le_refl _
  have HBS2 := Lib.hid hbase
  clear hbase
  have c2 : w1.cell? ⟨w.heap.size, 2, none⟩ = some (.slice so no co) := BOX.out w1 (Below.refl _ _) 2 _ rfl
  go_wp2_with (at_make; refine wpList_make_own _ rfl _ _ 110 rfl w1.heap.size 34 i0 (.int .u64 0) 1 Tryd.underlying110 hi hz0 hz1 _ _ _ no rfl rfl (by omega) (by rw [hz2]; omega) (by unfold maxLen; omega) (Nat.le_refl _) ?_; intro w2 hown hgrow; have HO := Lib.hid hown; have HB := Lib.hid (below_made hgrow); clear hown hgrow; have c3 := BOX.out w2 HB.out 2 _ rfl; go_frame)
  rw [← HBS2.out] at HO
  clear c2 c3
  go_loopw [3, 15] (fun vb vi wr => AddInv base no t w1 vb vi wr) (fun _ i _ => no - (intOf i).toNat)
  case atStart => exact ⟨0, _, rfl, by omega, rfl, HB.out, by simpa [HBS2.out] using HO.out⟩
  case round =>
    clear HO HB
    obtain ⟨k, vb, rfl, hk, rfl, B, HB⟩ := hrel
    have B := Lib.hid B
    have HB := Lib.hid HB
    by_cases hlt : k < no
    · have hkx : k < t.outs.length := by have := NO.out; omega
      obtain ⟨b2, o2, hs2, he2⟩ := HTO.out (by omega)
      have g2 := he2 k _ (List.getElem?_eq_getElem hkx)
      obtain ⟨y, hy⟩ : ∃ y, y = t.outs[k] := ⟨_, rfl⟩
      rw [← hy] at g2
      have hgy : t.outs[k]? = some y := by rw [hy]; exact List.getElem?_eq_getElem _
      obtain ⟨hy1, hr2⟩ := g2
      have p0 : 0 ≤ (k : Int) := by omega
      have q0 : (k : Int) < (no : Int) := by omega
      have R2 := Lib.hid (range_below (range_below hr2 B0.out) B.out)
      have GY := Lib.hid hgy
      have YOK := Lib.hid hy1
      have ONE := Lib.hid (out_one y)
      have LY : Hid ((outL y).length = 33) := outL_length y hy1.1
      have LY' : Hid ((outL y).toArray.size = 33) := by show _ = _; rw [List.size_toArray]; exact LY.out
      subst hs2
      clear hy hgy he2 hy1 hr2 hkx
      obtain ⟨g5, hg5⟩ : ∃ g5, g5 = wr.heap.size := ⟨_, rfl⟩
      obtain ⟨_, f2, f3, f4⟩ := fill_setup (Below.refl wr.heap.size wr) (uV 0 :: List.replicate 32 (bV 0)).toArray (outL y).toArray 44
      go_upto_region 5 with ((with_reducible show wpList _ _ _ _ _ _); first | (refine wpList_load_mid rfl 44 (.tmp 17) rfl b2 (o2 + k * 33) rfl (outL y) _ R2.out Tryd.underlying44 rfl (by rw [LY.out]; kernel_rfl) ?_; go_frame) | (refine wpList_store_row rfl 44 (.tmp 5) (.tmp 18) rfl wr.heap.size (outL y).toArray rfl rfl 44 _ (heap_alloc_new _ _) (by rw [LY'.out]; kernel_rfl) (by rw [LY'.out]; rfl) ONE.out ?_; go_frame))
      rw [← hg5] at f2 f3 f4 ⊢
      generalize hw5 : World.setRow _ _ _ = w5
      have e5 : World.setRow (wr.alloc (.cells (uV 0 :: List.replicate 32 (bV 0)).toArray 44)) g5 (outL y).toArray = w5 := hw5
      rw [e5] at f2 f4
      rw [hg5] at f4
      have F5 := Lib.hid f2
      have N5 := Lib.hid f4
      have B5 := Lib.hid (B.out.trans (f4.mono B.out.size))
      have G5 := Lib.hid hg5
      clear f2 f3 f4 hg5 hw5 e5
      have cv : w5.cell? ⟨g5, 0, none⟩ = some (.int .u64 (y.val : Int)) := by
        rw [cell_of_row _ _ _ _ _ _ F5.out]
        rfl
      have HB5 : Hid (w5.ownsRow base 34 1 vb k (((t.outs.take k).map (·.val)).map uV)) := own_kept HB.out N5.out
      go_wp2_with (at_builtin; refine wpList_append_own _ rfl _ _ 110 rfl base 34 i0 (.int .u64 0) 1 8 Tryd.underlying110 hi hz0 hz1 hz2 rfl (by decide) vb k _ rfl (HB5.out.alloc _) ⟨w5.heap.size, 0, none⟩ 1 1 [.int .u64 (y.val : Int)] rfl rfl (cell_one_new _ _ _) (fun u hu => by obtain rfl := List.mem_singleton.1 hu; rfl) (by unfold maxLen; omega) (by omega) (by have := B5.out.size; have := HBS2.out; simp; omega) ?_; intro v2 w3 ho3 hg3 _; have H3 := Lib.hid ho3; have B3 := Lib.hid (own_grown (B5.out.alloc B5.out.size _) HBS.out (by have := B5.out.size; simp; omega) (HB5.out.alloc _) hg3); clear ho3 hg3; go_frame)
      go_roundw
      case rel =>
        refine ⟨k + 1, v2, rfl, by omega, by go_num, B3.out, ?_⟩
        have e : (t.outs.take (k + 1)).map (·.val) = (t.outs.take k).map (·.val) ++ [y.val] := by
          have hk2 := (List.getElem?_eq_some_iff.1 GY.out)
          rw [List.take_succ_eq_append_getElem hk2.1, hk2.2, List.map_append]
          rfl
        rw [e, List.map_append]
        exact H3.out
      case measure => simp [intOf]; omega
    · have hkn : k = no := by omega
      have hge : ¬ (k : Int) < (no : Int) := by omega
      have H2 : wr.ownsRow base 34 1 vb no ((t.outs.map (·.val)).map uV) := by
        have h := HB.out
        rw [hkn, NO.out, List.take_length, ← NO.out] at h
        exact h
      have H2 := Lib.hid H2
      have HLN : Hid ((t.outs.map (·.val)).length ≤ 9223372036854775807) := by show _ ≤ _; rw [List.length_map, ← NO.out]; omega
      obtain ⟨lv, hlv⟩ : ∃ lv, lv = sumL (t.outs.map (·.val)) := ⟨_, rfl⟩
      have SC : Hid (∀ w', Below wr.heap.size wr w' → Calls Tryd.prog 62 #[vb] w' fun e w'' => e = .returned (.tuple #[.int .u64 (lv : Int), .bool b]) ∧ w' = w'') := fun w' hw' => by
        rw [hlv, HBb.out]
        exact sum_c (t.outs.map (·.val)) vb w' (srcU_own (own_kept H2.out hw')) HLN.out
      clear hkn hlv
      go_wp2_with fail
      refine (SC.out _ (Below.refl _ _)).mono ?_
      rintro e w' ⟨rfl, rfl⟩
      go_wp2_with fail
      go_ret
      exact ⟨rfl, B0.out.trans (B.out.mono B0.out.size)⟩
end Go.Proofs.YtcghbogkplcohaaDoor.Sha

/-
  The places that a transaction's inputs spend, as a map's keys: there are fewer keys than inputs just if two inputs have one place. Conditions: the inputs are what may be of inputs.
-/
namespace Go.Proofs.YtcghbogkplcohaaDoor.Sha
open Go Go.RowKit
open Go.Maps (addKey Keyed)
theorem any_key {L : List Lit} {x : Lit} (hx : WideAt.IsKeyLit x) : L.any (fun y => y.sameKey x) = true ↔ x ∈ L := by
  rw [List.any_eq_true]
  constructor
  · rintro ⟨y, hy, hs⟩
    rw [WideAt.sameKey_eq hs] at hy
    exact hy
  · exact fun h => ⟨x, h, WideAt.sameKey_self hx⟩
theorem keys_fewer (k : TIn → Lit) : ∀ (l : List TIn) (L : List Lit), (∀ x ∈ l, WideAt.IsKeyLit (k x)) → (∀ x ∈ l, ∀ y ∈ l, samePtIn x y = true ↔ k x = k y) →
    (((l.map k).foldl addKey L).length ≤ L.length + l.length ∧ (((l.map k).foldl addKey L).length < L.length + l.length ↔ (∃ x ∈ l, k x ∈ L) ∨ twiceB l = true))
  | [], L, _, _ => by simp [twiceB]
  | x :: l, L, h1, h2 => by
    have hx := h1 x List.mem_cons_self
    have ih := fun L => keys_fewer k l L (fun z hz => h1 z (List.mem_cons_of_mem _ hz)) (fun z hz y hy => h2 z (List.mem_cons_of_mem _ hz) y (List.mem_cons_of_mem _ hy))
    rw [List.map_cons, List.foldl_cons, List.length_cons]
    by_cases hm : k x ∈ L
    · have e : addKey L (k x) = L := by unfold addKey; rw [if_pos ((any_key hx).2 hm)]
      rw [e]
      obtain ⟨i1, -⟩ := ih L
      exact ⟨by omega, ⟨fun _ => .inl ⟨x, List.mem_cons_self, hm⟩, fun _ => by omega⟩⟩
    · have e : addKey L (k x) = L ++ [k x] := by unfold addKey; rw [if_neg (fun h => hm ((any_key hx).1 h))]
      rw [e]
      obtain ⟨i1, i2⟩ := ih (L ++ [k x])
      rw [List.length_append, List.length_singleton] at i1 i2
      refine ⟨by omega, ?_⟩
      rw [show L.length + (l.length + 1) = L.length + 1 + l.length by omega, i2]
      rw [show twiceB (x :: l) = (l.any (samePtIn x) || twiceB l) from rfl]
      simp only [Bool.or_eq_true, List.any_eq_true, List.mem_append, List.mem_singleton]
      constructor
      · rintro (⟨y, hy, hyL | hyx⟩ | ht)
        · exact .inl ⟨y, List.mem_cons_of_mem _ hy, hyL⟩
        · exact .inr (.inl ⟨y, hy, (h2 x List.mem_cons_self y (List.mem_cons_of_mem _ hy)).2 hyx.symm⟩)
        · exact .inr (.inr ht)
      · rintro (⟨y, hy, hyL⟩ | ⟨y, hy, hyx⟩ | ht)
        · rcases List.mem_cons.1 hy with rfl | hy
          · exact absurd hyL hm
          · exact .inl ⟨y, hy, .inl hyL⟩
        · exact .inl ⟨y, hy, .inr ((h2 x List.mem_cons_self y (List.mem_cons_of_mem _ hy)).1 hyx).symm⟩
        · exact .inr ht
theorem laid_out : laidOutB Tryd.prog = true := by kernel_rfl
theorem pt_row : (39 : TypeId) < Tryd.prog.types.size := of_decide_eq_true (by kernel_rfl)
theorem pt_wide : (match Tryd.prog.underlying 39 with | some (.array _ _) | some (.struct _) => true | _ => false) = true := by rw [pt_under]
theorem pt_typed : Tryd.prog.keyTypeAt 4 39 = true := by kernel_rfl
theorem pt_typed2 : Tryd.prog.keyType 39 = true := by kernel_rfl
theorem pt_cellsN : Tryd.prog.cellsOf 39 = 33 := by kernel_rfl
theorem hash_cellsN : Tryd.prog.cellsOf 23 = 32 := by kernel_rfl
theorem u8_cellsN : Tryd.prog.cellsOf 5 = 1 := by kernel_rfl
theorem u32_cellsN : Tryd.prog.cellsOf 26 = 1 := by kernel_rfl
set_option maxRecDepth 100000 in
theorem pt_law : Keyed Tryd.prog 39 := Keyed.of_law (deep_law_laid laid_out (by omega : 4 + 1 ≤ 10000) pt_row pt_typed pt_wide)
/-- A place as a map's key. -/
def ptLit (x : TIn) : Lit := .string (keyBytes ((x.h.map fun b => Lit.int .u8 (bv b)) ++ [.int .u32 (x.n : Int)]))
theorem mapM_all {α β : Type} {f : α → Option β} {g : α → β} : ∀ l : List α, (∀ x ∈ l, f x = some (g x)) → l.mapM f = some (l.map g)
  | [], _ => rfl
  | x :: l, h => by
    rw [List.mapM_cons, h x List.mem_cons_self, mapM_all l (fun y hy => h y (List.mem_cons_of_mem _ hy))]
    rfl
theorem flat_one {α β : Type} (g : α → β) : ∀ l : List α, (l.map fun i => [g i]).flatten = l.map g
  | [] => rfl
  | x :: l => by simp [flat_one g l]
theorem lits_u8 (d : Nat) (b : UInt8) : Tryd.prog.keyLits (d + 1) 5 [bV b] = some [.int .u8 (bv b)] := by
  have := bv_bd b
  simp only [Program.keyLits, Tryd.underlying5, bV]
  rw [if_pos]
  refine ⟨trivial, ?_⟩
  simp [Lit.wf, IntKind.min, IntKind.max, IntKind.signed, IntKind.bits]
  omega
theorem lits_u32 (d n : Nat) (h : n ≤ 4294967295) : Tryd.prog.keyLits (d + 1) 26 [nV n] = some [.int .u32 (n : Int)] := by
  simp only [Program.keyLits, Tryd.underlying26, nV]
  rw [if_pos]
  refine ⟨trivial, ?_⟩
  simp [Lit.wf, IntKind.min, IntKind.max, IntKind.signed, IntKind.bits]
  omega
theorem lits_array {P : Program} (d : Nat) {t n e : Nat} (cs : List Value) (hu : P.underlying t = some (.array n e)) : P.keyLits (d + 1) t cs =
    if cs.length = P.cellsOf t then ((List.range n).mapM fun i => P.keyLits d e ((cs.drop (i * P.cellsOf e)).take (P.cellsOf e))).map List.flatten else none := by
  conv => lhs; unfold Program.keyLits
  rw [hu]
theorem lits_struct {P : Program} (d : Nat) {t : Nat} {fs : Array Field} (cs : List Value) (hu : P.underlying t = some (.struct fs)) : P.keyLits (d + 1) t cs =
    if cs.length = P.cellsOf t ∧ fs.all (·.name != "_") = true then (fs.toList.mapM fun f => P.keyLits d f.type ((cs.drop f.offset).take (P.cellsOf f.type))).map List.flatten else none := by
  conv => lhs; unfold Program.keyLits
  rw [hu]
theorem lits_hash (d : Nat) (l : List UInt8) (h : l.length = 32) : Tryd.prog.keyLits (d + 2) 23 (l.map bV) = some (l.map fun b => .int .u8 (bv b)) := by
  rw [lits_array _ _ Tryd.underlying23]
  simp only [hash_cellsN, u8_cellsN, List.length_map, h, if_true, Nat.mul_one]
  rw [mapM_all (g := fun i => [Lit.int .u8 (bv (l.getD i 0))])]
  · show some _ = some _
    congr 1
    apply List.ext_getElem?
    intro i
    rw [flat_one (fun i => Lit.int .u8 (bv (l.getD i 0)))]
    simp only [List.getElem?_map]
    by_cases hi : i < 32
    · rw [List.getElem?_range hi, List.getElem?_eq_getElem (by omega)]
      simp [List.getD, List.getElem?_eq_getElem (show i < l.length by omega)]
    · rw [List.getElem?_eq_none (by simp; omega), List.getElem?_eq_none (by omega)]
      rfl
  · intro i hi
    have hi : i < 32 := List.mem_range.1 hi
    have e : ((l.map bV).drop i).take 1 = [bV (l.getD i 0)] := by
      rw [← List.map_drop, ← List.map_take, List.drop_eq_getElem_cons (show i < l.length by omega)]
      show [bV l[i]] = _
      simp [List.getD, List.getElem?_eq_getElem (show i < l.length by omega)]
    rw [e]
    exact lits_u8 d _
set_option maxRecDepth 100000 in
theorem pt_key (x : TIn) (hx : InOk x) : keyOf Tryd.prog 39 (.agg (ptL x.h x.n).toArray) = some (ptLit x) := by
  obtain ⟨m, hm⟩ : ∃ m, Tryd.prog.types.size = m + 2 := ⟨Tryd.prog.types.size - 2, by have : 39 < Tryd.prog.types.size := pt_row; omega⟩
  have hl : (ptL x.h x.n).length = 33 := by simp [ptL, hx.1]
  have hf : (Value.agg (ptL x.h x.n).toArray).formed Tryd.prog 39 = true := by
    unfold Value.formed
    rw [pt_under, pt_cellsN]
    simp [hl]
  have hL : Tryd.prog.keyLits (Tryd.prog.types.size + 1) 39 (ptL x.h x.n) = some ((x.h.map fun b => Lit.int .u8 (bv b)) ++ [.int .u32 (x.n : Int)]) := by
    rw [hm, lits_struct _ _ pt_under]
    have hpf := pt_fields
    generalize Tryd.prog.fieldsOf 39 = fs at hpf ⊢
    obtain ⟨fl⟩ := fs
    simp only [List.map_eq_cons_iff, List.map_eq_nil_iff] at hpf
    obtain ⟨f0, r0, rfl, e0, f1, r1, rfl, e1, rfl⟩ := hpf
    simp only [Prod.mk.injEq] at e0 e1
    obtain ⟨a0, b0, c0⟩ := e0
    obtain ⟨a1, b1, c1⟩ := e1
    have hg : (ptL x.h x.n).length = Tryd.prog.cellsOf 39 ∧ (List.toArray [f0, f1]).all (fun f => f.name != "_") = true := by
      rw [pt_cellsN]
      refine ⟨hl, ?_⟩
      simp [a0, a1]
    simp only [hg, if_true, and_self, List.mapM_cons, List.mapM_nil, b0, b1, c0, c1, hash_cellsN, u32_cellsN, List.drop_zero]
    have e2 : (ptL x.h x.n).take 32 = x.h.map bV := by simp [ptL, ← hx.1]
    have e3 : ((ptL x.h x.n).drop 32).take 1 = [nV x.n] := by simp [ptL, ← hx.1]
    rw [e2, e3, lits_hash _ _ hx.1, lits_u32 _ _ hx.2.1]
    rfl
  unfold keyOf
  rw [pt_under]
  simp only [pt_typed2, hf, Bool.and_self, if_true]
  rw [show (Value.agg (ptL x.h x.n).toArray).cells.toList = ptL x.h x.n by simp [Value.cells], hL]
  rfl
theorem ptLit_key (x : TIn) : WideAt.IsKeyLit (ptLit x) := trivial
theorem ptLit_same {x y : TIn} (hx : InOk x) (hy : InOk y) : samePtIn x y = true ↔ ptLit x = ptLit y := by
  constructor
  · intro h
    simp only [samePtIn, Bool.and_eq_true, decide_eq_true_eq] at h
    unfold ptLit
    rw [h.1, h.2]
  · intro h
    have h1 := pt_key x hx
    rw [h] at h1
    have h2 := pt_law.inj h1 (pt_key y hy)
    have h2 := Value.agg.inj h2
    have h3 := congrArg Array.toList h2
    simp only [ptL] at h3
    obtain ⟨h4, h5⟩ := List.append_inj h3 (by simp [hx.1, hy.1])
    have h6 : x.h = y.h := by
      have := List.map_inj_right (f := bV) (l := x.h) (l' := y.h) (fun a b e => bv_inj (Value.int.inj e).2)
      exact this.1 h4
    have h7 : x.n = y.n := by
      simp only [nV, List.cons.injEq, Value.int.injEq, true_and, and_true] at h5
      omega
    simp [samePtIn, h6, h7]
/-- Fewer places than inputs: two have one. -/
theorem twice_keys (l : List TIn) (h : InsOk l) : ((l.map ptLit).foldl addKey []).length ≤ l.length ∧ (decide (((l.map ptLit).foldl addKey []).length < l.length) = twiceB l) := by
  have h1 := keys_fewer ptLit l [] (fun x hx => ptLit_key x) (fun x hx y hy => ptLit_same (h x hx) (h y hy))
  simp only [List.length_nil, Nat.zero_add] at h1
  refine ⟨h1.1, ?_⟩
  rw [Bool.eq_iff_iff, decide_eq_true_eq, h1.2]
  simp
end Go.Proofs.YtcghbogkplcohaaDoor.Sha

/-
  Package tx tells whether two inputs of a transaction have one place. Nothing that was there turns. Condition: a transaction of a few inputs and outputs that lies in memory.
-/
namespace Go.Proofs.YtcghbogkplcohaaDoor.Sha
open Go Go.RowKit
open Go.Maps (addKey Keyed)
theorem run_makeMap_hint {P : Program} {w : World} (t kt et : TypeId) (k : IntKind) (n : Int) (hu : P.underlying t = some (.map kt et)) : (Instr.makeMap t (some (.int k n))).run P w = .ok (.map (some w.heap.size)) (w.alloc (.map #[] 0)) := by
  simp [Instr.makeMap, run_underlying hu, asInt, asIntOf, Result.andThen]
def placesD (l : List TIn) : DataW Unit := Maps.setOf (.agg []) (l.map ptLit)
theorem placesD_size (l : List TIn) : Maps.size (placesD l) = ((l.map ptLit).foldl addKey []).length :=
  Maps.size_setOf _ _ (fun x hx => by obtain ⟨y, _, rfl⟩ := List.mem_map.1 hx; exact ptLit_key y)
theorem placesD_snoc {l : List TIn} {k : Nat} {x : TIn} (h : l[k]? = some x) : placesD (l.take (k + 1)) = (placesD (l.take k)).put (ptLit x) (.agg []) := by
  have hk := List.getElem?_eq_some_iff.1 h
  rw [List.take_succ_eq_append_getElem hk.1, hk.2, placesD, List.map_append]
  exact Maps.setOf_snoc _ _ _
def PlInv (n mb : Nat) (t : TTx) (w1 : World) (vi : Value) (wr : World) : Prop :=
  ∃ k : Nat, k ≤ n ∧ vi = .int .i64 k ∧ wr.ownsMap Tryd.prog 39 unitElem mb k (placesD (t.ins.take k)) ∧ Below w1.heap.size w1 wr
set_option maxHeartbeats 1000000 in
set_option maxRecDepth 100000 in
theorem places_any (t : TTx) (v : Value) (w : World) (h1 : TxAt w v t) (hs : TxSmall t) (b : Bool) (hb : b = twiceB t.ins) :
    Calls Tryd.prog 50 #[v] w fun e w' => e = .returned (.bool b) ∧ Below w.heap.size w w' := by
  have HBb := Lib.hid hb
  clear hb
  have h1' := h1
  obtain ⟨ht0, iv, ov, rfl, hti, hto⟩ := h1
  obtain ⟨si, ci, rfl, hci, hti⟩ := hti
  obtain ⟨so, co, rfl, hco, hto⟩ := hto
  have HTI := Lib.hid hti
  have HTO := Lib.hid hto
  obtain ⟨ni, hn1⟩ : ∃ ni, ni = t.ins.length := ⟨_, rfl⟩
  obtain ⟨no, hn2⟩ : ∃ no, no = t.outs.length := ⟨_, rfl⟩
  obtain ⟨vt, hvt⟩ : ∃ vt, vt = t.ver := ⟨_, rfl⟩
  obtain ⟨tt, htt⟩ : ∃ tt, tt = t.time := ⟨_, rfl⟩
  have NI := Lib.hid hn1
  have NO := Lib.hid hn2
  have VT := Lib.hid hvt
  have TT := Lib.hid htt
  have TS := Lib.hid hs
  have bni : ni ≤ 1000 := by rw [hn1]; exact hs.2.1
  have bno : no ≤ 1000 := by rw [hn2]; exact hs.2.2.1
  simp only [txL, ← hn1, ← hn2, ← hvt, ← htt] at h1' ⊢
  have H1 := Lib.hid h1'
  clear hn1 hn2 hci hco hvt htt ht0 hti hto h1' hs
  
  go_enter Tryd.func50, Tryd.ntmps50
  go_upto_region 1 with fail
  have F := Lib.hid (heap_alloc_new w (.cells [nV vt, .slice si ni ci, .slice so no co, nV tt].toArray 32 (0, 0)))
  have B0 := Lib.hid ((Below.refl w.heap.size w).alloc (Nat.le_refl _) (.cells [nV vt, .slice si ni ci, .slice so no co, nV tt].toArray 32 (0, 0)))
  generalize hw1 : World.alloc _ _ = w1
  have e1 : w.alloc (.cells [nV vt, .slice si ni ci, .slice so no co, nV tt].toArray 32 (0, 0)) = w1 := hw1
  rw [e1] at F B0
  clear hw1 e1
  have BOX : Hid (∀ w', Below w1.heap.size w1 w' → ∀ j v, [nV vt, .slice si ni ci, .slice so no co, nV tt][j]? = some v → w'.cell? ⟨w.heap.size, j, none⟩ = some v) := fun w' hw' j v hj => by
    rw [cell_of_row _ _ _ _ _ _ (row_below F.out hw'), List.getElem?_toArray]
    exact hj
  have c1 : w1.cell? ⟨w.heap.size, 1, none⟩ = some (.slice si ni ci) := BOX.out w1 (Below.refl _ _) 1 _ rfl
  have hmm := fun (w' : World) => @run_makeMap_hint Tryd.prog w' 83 39 84 .i64 (ni : Int) Tryd.underlying83
  obtain ⟨mb, hmb⟩ : ∃ mb, mb = w1.heap.size := ⟨_, rfl⟩
  have MB : Hid (w1.heap.size ≤ mb) := by rw [hmb]; exact Nat.le_refl _
  have HOM : Hid ((w1.alloc (.map #[] 0)).ownsMap Tryd.prog 39 unitElem mb 0 (placesD [])) := by rw [hmb]; exact World.ownsMap_made _ _ _ _
  have HBM : Hid (Below w1.heap.size w1 (w1.alloc (.map #[] 0))) := (Below.refl _ _).alloc (Nat.le_refl _) _
  have c2 : (w1.alloc (.map #[] 0)).cell? ⟨w.heap.size, 1, none⟩ = some (.slice si ni ci) := BOX.out _ HBM.out 1 _ rfl
  go_wp2_with fail
  rw [← hmb]
  clear c1 c2 hmm hmb
  go_loopw [13] (fun vi wr => PlInv ni mb t w1 vi wr) (fun i _ => ni - (intOf i).toNat)
  case atStart => exact ⟨0, by omega, rfl, HOM.out, HBM.out⟩
  case round =>
    clear HOM HBM
    obtain ⟨k, hk, rfl, HM, B⟩ := hrel
    have B := Lib.hid B
    have HM := Lib.hid HM
    by_cases hlt : k < ni
    · have hkx : k < t.ins.length := by have := NI.out; omega
      obtain ⟨b1, o1, hs1, he1⟩ := HTI.out (by omega)
      have g1 := he1 k _ (List.getElem?_eq_getElem hkx)
      obtain ⟨x, hx⟩ : ∃ x, x = t.ins[k] := ⟨_, rfl⟩
      rw [← hx] at g1
      have hgx : t.ins[k]? = some x := by rw [hx]; exact List.getElem?_eq_getElem _
      obtain ⟨hx1, kx, hkx2, hr1⟩ := g1
      obtain ⟨sx, cx, hkv⟩ := hkx2.2
      obtain ⟨kl, hkl⟩ : ∃ kl, kl = x.key.length := ⟨_, rfl⟩
      rw [← hkl] at hkv
      subst hkv
      have p0 : 0 ≤ (k : Int) := by omega
      have q0 : (k : Int) < (ni : Int) := by omega
      have bkl : kl ≤ 100000 := by rw [hkl]; exact TS.out.2.2.2 x (List.mem_of_getElem? hgx)
      have R1 := Lib.hid (range_below (range_below hr1 B0.out) B.out)
      have KW := Lib.hid ((hkx2.1.below B0.out).below B.out)
      have GX := Lib.hid hgx
      have KL := Lib.hid hkl
      have XOK := Lib.hid hx1
      have ONE := Lib.hid (in_one x (.slice sx kl cx) rfl)
      have LX : Hid ((inL x (.slice sx kl cx)).length = 35) := inL_length x _ hx1.1
      have LX' : Hid ((inL x (.slice sx kl cx)).toArray.size = 35) := by show _ = _; rw [List.size_toArray]; exact LX.out
      subst hs1
      clear hx hgx he1 hx1 hkx2 hr1 hkl hkx
      obtain ⟨g5, hg5⟩ : ∃ g5, g5 = wr.heap.size := ⟨_, rfl⟩
      obtain ⟨_, f2, f3, f4⟩ := fill_setup (Below.refl wr.heap.size wr) (List.replicate 32 (bV 0) ++ [nV 0, .slice none 0 0, nV 0]).toArray (inL x (.slice sx kl cx)).toArray 42
      go_upto_region 5 with ((with_reducible show wpList _ _ _ _ _ _); first | (refine wpList_load_mid rfl 42 (.tmp 15) rfl b1 (o1 + k * 35) rfl (inL x (.slice sx kl cx)) _ R1.out Tryd.underlying42 rfl (by rw [LX.out]; kernel_rfl) ?_; go_frame) | (refine wpList_store_row rfl 42 (.tmp 5) (.tmp 16) rfl wr.heap.size (inL x (.slice sx kl cx)).toArray rfl rfl 42 _ (heap_alloc_new _ _) (by rw [LX'.out]; kernel_rfl) (by rw [LX'.out]; rfl) ONE.out ?_; go_frame))
      rw [← hg5] at f2 f3 f4 ⊢
      generalize hw5 : World.setRow _ _ _ = w5
      have e5 : World.setRow (wr.alloc (.cells (List.replicate 32 (bV 0) ++ [nV 0, .slice none 0 0, nV 0]).toArray 42)) g5 (inL x (.slice sx kl cx)).toArray = w5 := hw5
      rw [e5] at f2 f4
      rw [hg5] at f4
      have F5 := Lib.hid f2
      have N5 := Lib.hid f4
      have B5 := Lib.hid (B.out.trans (f4.mono B.out.size))
      have G5 := Lib.hid hg5
      have IN5 : Hid (∀ (j : Nat) (u : Value), (inL x (.slice sx kl cx))[j]? = some u → w5.cell? ⟨g5, j, none⟩ = some u) := fun j u hj => by
        rw [cell_of_row _ _ _ _ _ _ F5.out, List.getElem?_toArray]
        exact hj
      have X33 : Hid ((inL x (.slice sx kl cx))[33]? = some (.slice sx kl cx)) := by show _ = _; rw [inL, List.getElem?_append_right (by simp [ptL, XOK.out.1])]; simp [ptL, XOK.out.1]
      clear f2 f3 f4 hg5 hw5 e5
      have HM5 := Lib.hid (HM.out.kept (grownBy_of_below N5.out none) (by simp))
      have LP : Hid ((ptL x.h x.n).length = 33) := by show _ = _; simp [ptL, XOK.out.1]
      have RP := Lib.hid (in_pt (range_of_box F5.out))
      go_wp2_with ((with_reducible show wpList _ _ _ _ _ _); first | (refine wpList_load_mid rfl 39 (.tmp 18) rfl g5 0 rfl (ptL x.h x.n) _ RP.out Tryd.underlying39 rfl (by rw [LP.out]; kernel_rfl) ?_; go_frame) | (refine wpList_buildTo rfl 84 _ rfl _ rfl #[] (by kernel_rfl) ?_; go_frame) | (refine wpList_mapUpdate_own _ rfl _ _ _ 83 rfl 39 84 pt_law Tryd.underlying83 _ mb k _ rfl HM5.out (by unfold maxLen; omega) _ _ (ptLit x) rfl rfl (pt_key x XOK.out) (.agg []) [] unitElem_mk ?_; intro w6 ho6 hg6; have H6 := Lib.hid ho6; have B6 := Lib.hid (B5.out.grown hg6 B5.out.size (fun q hq => by cases hq; exact MB.out)); clear ho6 hg6; go_frame))
      go_roundw
      case rel =>
        refine ⟨k + 1, by omega, by go_num, ?_, B6.out⟩
        rw [placesD_snoc GX.out]
        exact H6.out
      case measure => simp [intOf]; omega
    · have hkn : k = ni := by omega
      have hge : ¬ (k : Int) < (ni : Int) := by omega
      have c1 : wr.cell? ⟨w.heap.size, 1, none⟩ = some (.slice si ni ci) := BOX.out wr B.out 1 _ rfl
      have h := HM.out
      rw [hkn, NI.out, List.take_length] at h
      have HM2 := Lib.hid h
      clear h
      obtain ⟨D, hD⟩ : ∃ D, D = placesD t.ins := ⟨_, rfl⟩
      rw [← hD, ← NI.out] at HM2
      obtain ⟨sz, hsz⟩ : ∃ sz, sz = Maps.size D := ⟨_, rfl⟩
      have HR : Hid (decide (sz < ni) = b) := by
        show _ = _
        rw [HBb.out, ← (twice_keys t.ins TS.out.1.2.1).2, hsz, hD, placesD_size, NI.out]
      have SZ := Lib.hid hsz
      clear hkn hD hsz
      by_cases hb2 : sz < ni
      · have e1 : (sz : Int) < (ni : Int) := by omega
        obtain rfl : true = b := by rw [← HR.out, decide_eq_true hb2]
        clear hb2
        go_wp2_with (at_len; refine wpList_len_own _ rfl _ 83 rfl 39 84 Tryd.underlying83 _ mb ni D rfl HM2.out ?_; rw [← SZ.out]; go_frame)
        go_ret
        exact ⟨rfl, B0.out.trans (B.out.mono B0.out.size)⟩
      · have e1 : ¬ (sz : Int) < (ni : Int) := by omega
        obtain rfl : false = b := by rw [← HR.out, decide_eq_false hb2]
        clear hb2
        go_wp2_with (at_len; refine wpList_len_own _ rfl _ 83 rfl 39 84 Tryd.underlying83 _ mb ni D rfl HM2.out ?_; rw [← SZ.out]; go_frame)
        go_ret
        exact ⟨rfl, B0.out.trans (B.out.mono B0.out.size)⟩
end Go.Proofs.YtcghbogkplcohaaDoor.Sha
