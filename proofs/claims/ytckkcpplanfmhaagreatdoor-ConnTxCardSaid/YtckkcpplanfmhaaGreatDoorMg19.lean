/-
  Texts of this proof joined into one file: KpSt, ConnLocksWalk, ErrCtx, ArgsCn, ArgsI64. What each holds, and under which conditions, its own first sentence tells.
-/
import Derived.Stop.LaidErr
import Derived.Deep.Slices
import Derived.Test.YtckkcpplanfmhaaGreatDoorMg14
import Derived.Test.YtckkcpplanfmhaaGreatDoorMg05
import Derived.Test.YtckkcpplanfmhaaGreatDoorMg06
import Derived.Test.YtckkcpplanfmhaaGreatDoorMg17
import Derived.Test.YtckkcpplanfmhaaGreatDoorMg18
import Derived.Test.YtckkcpplanfmhaaGreatDoorMg01
import Derived.Test.YtckkcpplanfmhaaGreatDoorMg11
import Derived.Test.YtckkcpplanfmhaaGreatDoorMg07
import Derived.Test.YtckkcpplanfmhaaGreatDoorMg16
import Derived.Test.YtckkcpplanfmhaaGreatDoorMg10
import Derived.Test.YtckkcpplanfmhaaGreatDoorRows
import Derived.Test.YtckkcpplanfmhaaGreatDoorMg03
import Derived.Test.YtckkcpplanfmhaaGreatDoorMg08
/-
  The state of a law that builds a transaction and coins: the transaction in its box, its inputs with their keys, the coins, the outputs in rows of their own. Conditions: none.
-/
namespace Go.Proofs.YtckkcpplanfmhaaGreatDoor.Sha
open Go Go.RowKit
def kpT (tv ov : Value) : List Value := [nV 0, tv, ov, nV 0]
/-- An input whose key stands in a block of bytes. -/
def KyAt (W : World) (e : TIn × Value) : Prop := InOk e.1 ∧ 0 < e.1.key.length ∧ ∃ b, e.2 = .slice (some ⟨b, 0, none⟩) e.1.key.length e.1.key.length ∧ W.heap[b]? = some (.cells (e.1.key.map bV).toArray 5 (0, 0))
theorem KyAt.below {W W' : World} {e : TIn × Value} (h : KyAt W e) (hb : Below W.heap.size W W') : KyAt W' e := by
  obtain ⟨h1, h0, b, h2, h3⟩ := h
  exact ⟨h1, h0, b, h2, row_below h3 hb⟩
theorem KyAt.box {W W' : World} {e : TIn × Value} {g : Nat} {cs : Array Value} {T : TypeId} {fr : Nat × Nat} (h : KyAt W e) (ho : W.heap[g]? = some (.cells cs T fr)) (hT : T ≠ 5) (hg : W.grownBy W' (some g)) : KyAt W' e := by
  obtain ⟨h1, h0, b, h2, h3⟩ := h
  refine ⟨h1, h0, b, h2, row_far h3 hg (fun e => ?_)⟩
  have e' : g = b := Option.some.inj e
  rw [e', h3] at ho
  exact hT (Obj.cells.inj (Option.some.inj ho)).2.1.symm
theorem KyAt.key {W : World} {e : TIn × Value} (h : KyAt W e) : KeyAt W e.2 e.1.key := by
  obtain ⟨_, h0, b, h2, h3⟩ := h
  rw [h2]
  exact ⟨src_row rfl h0 h3, _, _, rfl⟩
structure KpG (w0 : World) (base g : Nat) (es : List (TIn × Value)) (ms : List TMn) (os : List TOut) (iv vm ow tv ov : Value) (W : World) : Prop where
  tx : W.heap[g]? = some (.cells (kpT tv ov).toArray 27 (0, 0))
  ins : RwOwn 35 53 base W iv (es.map fun e => inL e.1 e.2)
  mon : RwOwn 35 46 base W vm (ms.map mnL)
  out : RwOwn 33 65 base W ow (os.map outL)
  keys : ∀ e ∈ es, KyAt W e
  below : Below w0.heap.size w0 W
  low : w0.heap.size ≤ g
  gb : g < base
  sz : base ≤ W.heap.size
variable {w0 W W' : World} {base g : Nat} {es : List (TIn × Value)} {ms : List TMn} {os : List TOut} {iv vm ow tv ov : Value}
theorem KpG.keep (h : KpG w0 base g es ms os iv vm ow tv ov W) (hb : Below W.heap.size W W') : KpG w0 base g es ms os iv vm ow tv ov W' :=
  ⟨row_below h.tx hb, h.ins.keep hb, h.mon.keep hb, h.out.keep hb, fun e he => (h.keys e he).below hb, h.below.trans (hb.mono h.below.size), h.low, h.gb, Nat.le_trans h.sz hb.size⟩
theorem KpG.off {k : Nat} {T : TypeId} {v : Value} {L : List (List Value)} (h : KpG w0 base g es ms os iv vm ow tv ov W) (ho : RwOwn k T base W v L) : v.ownBlock = none ∨ v.ownBlock ≠ some g := own_far ho.1 h.gb
theorem KpG.grown {k : Nat} {T : TypeId} {v : Value} {L : List (List Value)} (h : KpG w0 base g es ms os iv vm ow tv ov W) (ho : RwOwn k T base W v L) (hg : W.grownBy W' v.ownBlock) : Below w0.heap.size w0 W' :=
  own_grown h.below (Nat.le_of_lt (Nat.lt_of_le_of_lt h.low h.gb)) h.below.size ho.1 hg
theorem KpG.store {tv' ov' : Value} (h : KpG w0 base g es ms os iv vm ow tv ov W) (hr : W'.heap[g]? = some (.cells (kpT tv' ov').toArray 27 (0, 0))) (hg : W.grownBy W' (some g)) : KpG w0 base g es ms os iv vm ow tv' ov' W' :=
  ⟨hr, h.ins.kept hg (h.off h.ins), h.mon.kept hg (h.off h.mon), h.out.kept hg (h.off h.out), fun e he => (h.keys e he).box h.tx (by decide) hg,
    h.below.grown hg h.below.size (fun q hq => by cases hq; exact h.low), h.low, h.gb, Nat.le_trans h.sz hg.size⟩
theorem KpG.cells (h : KpG w0 base g es ms os iv vm ow tv ov W) : W.cell? ⟨g, 1, none⟩ = some tv ∧ W.cell? ⟨g, 2, none⟩ = some ov := by
  constructor
  · rw [cell_of_row _ _ _ _ _ _ h.tx]; rfl
  · rw [cell_of_row _ _ _ _ _ _ h.tx]; rfl
theorem KpG.at (h : KpG w0 base g es ms os iv vm ow iv ow W) (ho : ∀ y ∈ os, OutOk y) : TxAt W (.agg (kpT iv ow).toArray) ⟨0, es.map (·.1), os, 0⟩ := by
  refine ⟨⟨Nat.zero_le _, Nat.zero_le _⟩, iv, ow, rfl, ?_, ?_⟩
  · obtain ⟨_, sp, cap, e, hc, hg⟩ := h.ins.at (by omega)
    rw [List.length_map] at e hc hg
    refine ⟨sp, cap, by rw [e]; show _ = Value.slice sp (es.map (·.1)).length cap; rw [List.length_map], by show (es.map (·.1)).length ≤ cap; rw [List.length_map]; exact hc, fun h0 => ?_⟩
    obtain ⟨b, o, hsp, hx⟩ := hg (by have h1 : 0 < (es.map (·.1)).length := h0; rw [List.length_map] at h1; exact h1)
    refine ⟨b, o, hsp, fun i x hi => ?_⟩
    have hi2 : (es.map (·.1))[i]? = some x := hi
    rw [List.getElem?_map] at hi2
    cases he : es[i]? with
    | none => rw [he] at hi2; cases hi2
    | some e2 =>
      rw [he] at hi2
      cases hi2
      have hk := h.keys e2 (List.mem_of_getElem? he)
      exact ⟨hk.1, e2.2, hk.key, hx i _ (by rw [List.getElem?_map, he]; rfl)⟩
  · obtain ⟨_, sp, cap, e, hc, hg⟩ := h.out.at (by omega)
    rw [List.length_map] at e hc hg
    refine ⟨sp, cap, e, hc, fun h0 => ?_⟩
    obtain ⟨b, o, hsp, hx⟩ := hg h0
    refine ⟨b, o, hsp, fun i y hy => ⟨ho y (List.mem_of_getElem? hy), hx i _ (by rw [List.getElem?_map, hy]; rfl)⟩⟩
end Go.Proofs.YtckkcpplanfmhaaGreatDoor.Sha

/-
  The statement on locks answers true. Nothing that was there turns. Conditions: the errors and the table of the rounds' words are there.
-/
namespace Go.Proofs.YtckkcpplanfmhaaGreatDoor.Sha
open Go Go.RowKit
theorem lk_info_u32 : (Tryz.prog.info? 23).map (fun i => (i.zero, i.size, i.bytes)) = some (some (.int .u32 0), 1, 4) := by kernel_rfl
theorem lk_built_mn (c : TMn) (hc : MnOk c) (hb : c.base = false) : Tryz.prog.built 46 [(0, .int .u64 (c.val : Int)), (1, .agg (c.lock.map bV).toArray), (2, .int .i64 c.height)] = some (mnL c).toArray := by
  have hz : ∀ parts, Tryz.prog.built 46 parts = Instr.fill ([(0, 1), (1, 32), (33, 1), (34, 1)].toArray[·]?) (mnL mnZ).toArray parts := fun parts => by kernel_rfl
  obtain ⟨x, k, y, z⟩ := c
  have hz2 : z = false := hb
  subst hz2
  have l1 : (k.map bV).length = 32 := by simp [show k.length = 32 from hc.1]
  have l2 : (mnL mnZ).length = 35 := rfl
  have e0 : mnL mnZ = .int .u64 0 :: (List.replicate 32 (bV 0) ++ [.int .i64 0, .bool false]) := by simp [mnL, mnZ]
  rw [hz, fill_part _ 0 0 (.int .u64 (x : Int)) [.int .u64 (x : Int)] _ _ rfl rfl (by simp [l2]), List.take_zero, List.nil_append, List.length_singleton, Nat.zero_add]
  have e1 : [Value.int .u64 (x : Int)] ++ (mnL mnZ).drop 1 = .int .u64 (x : Int) :: (List.replicate 32 (bV 0) ++ [.int .i64 0, .bool false]) := by rw [e0]; rfl
  rw [e1, fill_part _ 1 1 (.agg (k.map bV).toArray) (k.map bV) _ _ rfl (by rw [l1]; rfl) (by simp [l1])]
  have e2 : (Value.int .u64 (x : Int) :: (List.replicate 32 (bV 0) ++ [.int .i64 0, .bool false])).take 1 ++ k.map bV ++ (Value.int .u64 (x : Int) :: (List.replicate 32 (bV 0) ++ [.int .i64 0, .bool false])).drop (1 + (k.map bV).length) = .int .u64 (x : Int) :: (k.map bV ++ [.int .i64 0, .bool false]) := by
    rw [l1, show 1 + 32 = 32 + 1 from rfl, List.drop_succ_cons, List.drop_append_of_le_length (by simp), List.drop_eq_nil_of_le (by simp)]
    rfl
  rw [e2, fill_part _ 2 33 (.int .i64 y) [.int .i64 y] _ _ rfl rfl (by simp [l1])]
  have e3 : (Value.int .u64 (x : Int) :: (k.map bV ++ [.int .i64 0, .bool false])).take 33 ++ [.int .i64 y] ++ (Value.int .u64 (x : Int) :: (k.map bV ++ [.int .i64 0, .bool false])).drop (33 + [Value.int .i64 y].length) = .int .u64 (x : Int) :: (k.map bV ++ [.int .i64 y, .bool false]) := by
    rw [List.take_succ_cons, List.take_append_of_le_length (by omega), List.take_of_length_le (by omega), List.length_singleton, show 33 + 1 = 33 + 1 from rfl, List.drop_succ_cons, List.drop_append, List.drop_eq_nil_of_le (by omega), l1]
    simp
  rw [e3]
  rfl
theorem lk_key {w : World} {g : Nat} (h : w.heap[g]? = some (.cells (([6] : List UInt8).map bV).toArray 5 (0, 0))) : KeyAt w (.slice (some ⟨g, 0, none⟩) 1 1) [6] :=
  ⟨.inr ⟨by decide, g, 0, 1, rfl, Nat.le_refl _, fun j hj => by
    have hj0 : j = 0 := by have : j < 1 := hj; omega
    subst hj0
    exact range_of_box h 0 _ rfl⟩, _, _, rfl⟩
theorem lk_ne {w : World} {g h : Nat} {cs cs' : Array Value} {T T' : TypeId} {fr fr' : Nat × Nat} (hg : w.heap[g]? = some (.cells cs T fr)) (hh : w.heap[h]? = some (.cells cs' T' fr')) (hT : T ≠ T') : g ≠ h := fun e => by
  rw [e, hh] at hg
  exact hT (Obj.cells.inj (Option.some.inj hg)).2.1.symm
theorem flt_bare' {w : World} {E : Nat → Addr} {u : Value} {c : Nat} (h : FltV w E u (c, none)) : u = errV E c := by
  rcases h with ⟨_, e⟩ | ⟨q, p, g, e, _⟩
  · exact e
  · cases e
def LkI (n base : Nat) (w : World) (vp vi : Value) (wr : World) : Prop := ∃ (k : Nat) (vq : Value), vq = vp ∧ vi = .int .i64 (k : Int) ∧ k ≤ n ∧ RwOwn 1 23 base wr vq ((lkPs k).map u32C) ∧ Below w.heap.size w wr
set_option maxHeartbeats 4000000 in
set_option maxRecDepth 100000 in
theorem connlocks_main (E : Nat → Addr) (x y : Int) (time : Bool) (w : World) (hE : Errs w E) (hK : KTab w) (hx : -9223372036854775808 ≤ x ∧ x ≤ 9223372036854775807) (hy : -9223372036854775808 ≤ y ∧ y ≤ 9223372036854775807) :
    Calls Tryz.prog 6 #[.int .i64 x, .int .i64 y, .bool time] w fun e w' => e = .returned (.bool true) ∧ Below w.heap.size w w' := by
  have HE := Lib.hid hE
  have HK := Lib.hid hK
  obtain ⟨kw, hkw, hkw2⟩ := numb_nat x 20 (by omega)
  obtain ⟨ka, hka, hka2⟩ := numb_nat y 20 (by omega)
  have N1 : Hid (∀ W, Calls Tryz.prog 15 #[.int .i64 x, .int .i64 20] W fun e w' => e = .returned (.int .i64 (kw : Int)) ∧ W = w') := fun W => by rw [← show numb x 20 = (kw : Int) from hkw]; exact numb_any x 20 (by omega) (by omega) hx W
  have N2 : Hid (∀ W, Calls Tryz.prog 15 #[.int .i64 y, .int .i64 20] W fun e w' => e = .returned (.int .i64 (ka : Int)) ∧ W = w') := fun W => by rw [← show numb y 20 = (ka : Int) from hka]; exact numb_any y 20 (by omega) (by omega) hy W
  clear hkw hka hx hy hE hK
  obtain ⟨a1, ha1⟩ : ∃ a, a = ka + 1 := ⟨_, rfl⟩
  obtain ⟨n, hn⟩ : ∃ n, n = 3 + a1 := ⟨_, rfl⟩
  obtain ⟨n1, hn1⟩ : ∃ n1, n1 = n - 1 := ⟨_, rfl⟩
  have m1 : IntKind.i64.wrap ((ka : Int) + 1) = (a1 : Int) := by rw [IntKind.wrap_i64]; omega
  have m1b : wrap64 ((ka : Int) + 1) = (a1 : Int) := by rw [← IntWalk.i64_left]; exact m1
  have mh : IntKind.i64.wrap (3 + (a1 : Int)) = (n : Int) := by rw [IntKind.wrap_i64]; omega
  have mhb : wrap64 (3 + (a1 : Int)) = (n : Int) := by rw [← IntWalk.i64_left]; exact mh
  have m7 : IntKind.i64.wrap ((n : Int) - 1) = (n1 : Int) := by rw [IntKind.wrap_i64]; omega
  have m7b : wrap64 ((n : Int) - 1) = (n1 : Int) := by rw [← IntWalk.i64_left]; exact m7
  have m8 : IntKind.i64.wrap ((n1 : Int) - 2) = (a1 : Int) := by rw [IntKind.wrap_i64]; omega
  have m8b : wrap64 ((n1 : Int) - 2) = (a1 : Int) := by rw [← IntWalk.i64_left]; exact m8
  have m6 : IntKind.u32.wrap (kw : Int) = (kw : Int) := by rw [IntKind.wrap_u32]; omega
  have NB : Hid (4 ≤ n ∧ n ≤ 23 ∧ kw < 20 ∧ (n : Int) - 3 = (a1 : Int)) := ⟨by omega, by omega, hkw2, by omega⟩
  have M7 := Lib.hid m7
  have M7b := Lib.hid m7b
  have M8 := Lib.hid m8
  have M8b := Lib.hid m8b
  have M6 := Lib.hid m6
  clear hkw2 hka2 ha1 hn hn1 m6 m7 m7b m8 m8b
  go_enter Tryz.func6, Tryz.ntmps6
  go_wp2_with fail
  refine (cofirst_any E w HE.out).mono ?_
  rintro e w1 ⟨rfl, bb⟩
  have B1 := Lib.hid bb
  clear bb
  go_wp2_with fail
  refine (N1.out w1).mono ?_
  rintro e w2 ⟨rfl, rfl⟩
  go_wp2_with fail
  refine (N2.out w1).mono ?_
  rintro e w2 ⟨rfl, rfl⟩
  go_upto_region 7 with fail
  have fk := heap_alloc_new w1 (.cells #[.int .u8 6] 5 (0, 0))
  have bb := (Below.refl w1.heap.size w1).alloc (Nat.le_refl _) (.cells #[.int .u8 6] 5 (0, 0))
  generalize hq : World.alloc _ _ = w3
  have e3 : w1.alloc (.cells #[.int .u8 6] 5 (0, 0)) = w3 := hq
  rw [e3] at fk bb
  obtain ⟨gk, hgk⟩ : ∃ g, g = w1.heap.size := ⟨_, rfl⟩
  rw [← hgk] at fk ⊢
  have FK : Hid (w3.heap[gk]? = some (.cells (([6] : List UInt8).map bV).toArray 5 (0, 0))) := fk
  have BB := Lib.hid (B1.out.trans (bb.mono B1.out.size))
  clear fk bb hq e3 hgk B1 m1 m1b
  obtain ⟨cp, hcp⟩ : ∃ c, c = ptC lkP := ⟨_, rfl⟩
  have LP : Hid (cp.length = 33) := by show _ = _; rw [hcp]; exact ptC_length lkP_ok
  have LPZ : Hid (cp.toArray.size = 33) := by show _ = _; rw [hcp]; exact ptC_size lkP_ok
  have LPA : Hid (cp.toArray.all (·.oneCell') = true) := by show _ = _; rw [hcp]; exact ptC_all lkP
  have BP : Hid (Tryz.prog.built 50 [(0, .agg (lkH.map bV).toArray)] = some cp.toArray) := by show _ = _; rw [hcp]; kernel_rfl
  have CPE := Lib.hid hcp
  have zs : Hid ((List.replicate 32 (bV 0) ++ [nV 0]).toArray.size = cp.toArray.size) := by show _ = _; rw [LPZ.out]; rfl
  clear hcp
  go_upto_region 8 with ((with_reducible show wpList _ _ _ _ _ _); first | (refine wpList_buildTo rfl 44 _ rfl _ rfl (lkH.map bV).toArray (by kernel_rfl) ?_; go_frame) | (refine wpList_buildTo rfl 50 _ rfl _ rfl cp.toArray (by rw [← BP.out]; kernel_rfl) ?_; go_frame) | (refine wpList_store_row rfl 50 (.tmp 9) (.tmp 28) rfl w3.heap.size cp.toArray rfl rfl 50 _ (heap_alloc_new _ _) (by rw [LPZ.out]; kernel_rfl) (by rw [LPZ.out]; rfl) LPA.out ?_; go_frame))
  obtain ⟨_, f2, f3, f4⟩ := fill_setup (Below.refl w3.heap.size w3) (List.replicate 32 (bV 0) ++ [nV 0]).toArray cp.toArray 50
  generalize hqw4 : World.setRow _ _ _ = w4
  have ew4 : World.setRow (w3.alloc (.cells (List.replicate 32 (bV 0) ++ [nV 0]).toArray 50)) w3.heap.size cp.toArray = w4 := hqw4
  rw [ew4] at f2 f3 f4
  obtain ⟨g9, hg9⟩ : ∃ g9, g9 = w3.heap.size := ⟨_, rfl⟩
  rw [← hg9] at f2 ⊢
  have F9 := Lib.hid f2
  have Ng9 : Hid (w3.heap.size ≤ g9) := by show _ ≤ _; rw [hg9]; exact Nat.le_refl _
  have FK := Lib.hid (row_below FK.out f4)
  have BB := Lib.hid (BB.out.trans (f4.mono BB.out.size))
  clear f2 f3 f4 hqw4 ew4 hg9
  go_upto_region 9 with fail
  have fs := heap_alloc_new w4 (.cells #[.map none] 76 (0, 0))
  have bb := (Below.refl w4.heap.size w4).alloc (Nat.le_refl _) (.cells #[.map none] 76 (0, 0))
  generalize hq : World.alloc _ _ = w5
  have e5 : w4.alloc (.cells #[.map none] 76 (0, 0)) = w5 := hq
  rw [e5] at fs bb
  obtain ⟨gs, hgs⟩ : ∃ g, g = w4.heap.size := ⟨_, rfl⟩
  rw [← hgs] at fs ⊢
  have GS : Hid (w.heap.size ≤ gs) := by show _ ≤ _; rw [hgs]; exact BB.out.size
  have NE9 : Hid (g9 ≠ gs) := fun e => by have := (Array.getElem?_eq_some_iff.1 F9.out).1; omega
  have NEK : Hid (gk ≠ gs) := fun e => by have := (Array.getElem?_eq_some_iff.1 FK.out).1; omega
  have ST : Hid (SetAt w5 gs none []) := ⟨fs, rfl⟩
  have FK := Lib.hid (row_below FK.out bb)
  have F9 := Lib.hid (row_below F9.out bb)
  have BB := Lib.hid (BB.out.trans (bb.mono BB.out.size))
  clear fs bb hq e5 hgs
  obtain ⟨sk, hsk⟩ : ∃ s, s = (sha [6]).map bV := ⟨_, rfl⟩
  obtain ⟨cm, hcm⟩ : ∃ c, c = mnL lkC := ⟨_, rfl⟩
  have SHA : Hid (∀ W, KeyAt W (.slice (some ⟨gk, 0, none⟩) 1 1) [6] → Calls Tryz.prog 20 #[.slice (some ⟨gk, 0, none⟩) 1 1] W fun e w' => e = .returned (.agg sk.toArray) ∧ Below W.heap.size W w') := fun W h => by rw [hsk]; exact ref_any [6] _ 1 1 W h.1 (by omega)
  have BM : Hid (Tryz.prog.built 46 [(0, .int .u64 9), (1, .agg sk.toArray), (2, .int .i64 3)] = some cm.toArray) := by show _ = _; rw [hsk, hcm]; exact lk_built_mn lkC lkC_ok rfl
  have AD : Hid (∀ W, Errs W E → SetAt W gs none [] → Calls Tryz.prog 19 #[.pointer (some ⟨gs, 0, none⟩), .agg cp.toArray, .agg cm.toArray] W fun e w' => e = .returned .nilIface ∧ ∃ m', SetAt w' gs m' [⟨lkP, lkC⟩] ∧ (m' = none ∨ ∃ b, m' = some b ∧ W.heap.size ≤ b) ∧ Kps (fun j => j ≠ gs ∧ none ≠ some j) W w') := fun W hE hS => by
    rw [CPE.out, hcm]
    exact setadd_any E W gs none [] lkP lkC (EC.of hE) hS lkP_ok lkC_ok
  clear hsk hcm
  refine wp_region_held_drew (S := (fun w' => w'.heap[g9]? = some (.cells cp.toArray 50 (0, 0)))) (by kernel_rfl) (row_below F9.out (Below.drew (Below.refl _ _))) (fun hHeld => ?_)
  have ST := Lib.hid (ST.out.below (Below.drew (Below.refl _ _)))
  have FK := Lib.hid (row_below FK.out (Below.drew (Below.refl _ _)))
  have BB := Lib.hid (BB.out.trans (Below.mono (Below.drew (Below.refl _ _)) BB.out.size))
  generalize hwd : w5.drew = wd at ST FK BB hHeld ⊢
  clear hwd
  refine held_take (i := 0) (v := (.pointer (some ⟨gs, 0, none⟩))) rfl (by kernel_rfl) (by kernel_rfl) (by kernel_rfl) (fun _ _ _ h => h) (Or.inl ⟨by rfl, fun w' _ => by kernel_rfl⟩) hHeld ?_
  go_frame
  refine held_take (i := 1) (v := (.agg cp.toArray)) rfl (by kernel_rfl) (by kernel_rfl) (by kernel_rfl) (fun _ _ _ h => h) (yieldsIf_load_row (by rfl) 50 (.tmp 9) rfl g9 rfl 50 cp.toArray (0, 0) _ (fun w' hw' => hw') Tryz.underlying50 rfl (by rw [List.size_toArray, LP.out]; kernel_rfl)) hHeld ?_
  go_frame
  refine held_take (i := 2) (v := (.slice (some ⟨gk, 0, none⟩) 1 1)) rfl (by kernel_rfl) (by kernel_rfl) (by kernel_rfl) (fun _ _ _ h => h) (Or.inl ⟨by rfl, fun w' _ => by kernel_rfl⟩) hHeld ?_
  go_frame
  refine wpAnyH_ready (rs := [3]) (by kernel_rfl) (by simp) (held_cons rfl (fun K hK => ?_) AllReadyH.nil)
  go_simp
  refine (SHA.out _ (lk_key FK.out)).mono ?_
  rintro e v1 ⟨rfl, bb⟩
  have hS2 := row_below hHeld bb
  have ST := Lib.hid (ST.out.below bb)
  have FK := Lib.hid (row_below FK.out bb)
  have BB := Lib.hid (BB.out.trans (bb.mono BB.out.size))
  have hv1 := hS2
  clear bb hHeld
  go_wp2_with fail
  refine hK.out _ _ hv1 (fun hHeld => ?_)
  clear hK K hv1
  refine held_take (i := 4) (v := (.agg cm.toArray)) rfl (by kernel_rfl) (by kernel_rfl) (by kernel_rfl) (fun _ _ _ h => h) (yieldsIf_build (by rfl) 46 _ rfl [(0, .int .u64 9), (1, .agg sk.toArray), (2, .int .i64 3)] (by kernel_rfl) _ BM.out) hHeld ?_
  go_frame
  refine wpAnyH_ready (rs := [5]) (by kernel_rfl) (by simp) (held_cons rfl (fun K hK => ?_) AllReadyH.nil)
  go_simp
  refine (AD.out _ (HE.out.below BB.out) ST.out).mono ?_
  rintro e v2 ⟨rfl, m2, hs2, hm2, hk2⟩
  have hS2 := row_kps hHeld hk2 ⟨NE9.out, fun e => by cases e⟩
  have ST := Lib.hid hs2
  have FK := Lib.hid (row_kps FK.out hk2 ⟨NEK.out, fun e => by cases e⟩)
  have BB := Lib.hid (Below.set BB.out hk2 GS.out (fun q e => by cases e) BB.out.size)
  have bb := trivial
  have hv2 := hS2
  clear bb hHeld
  go_wp2_with fail
  refine hK.out _ _ hv2 (fun hHeld => ?_)
  clear hK K hv2
  refine held_take (i := 6) (v := (.bool false)) rfl (by kernel_rfl) (by kernel_rfl) (by kernel_rfl) (fun _ _ _ h => h) (Or.inl ⟨by rfl, fun w' _ => by go_simp⟩) hHeld ?_
  go_frame
  refine wpAnyH_done (by kernel_rfl) ?_ _
  obtain ⟨w6, hw6⟩ : ∃ w, w = v2 := ⟨_, rfl⟩
  rw [← hw6] at hHeld ST FK BB ⊢
  have F9 := Lib.hid hHeld
  clear hw6 hHeld
  obtain ⟨base, hbase⟩ : ∃ b, b = w6.heap.size := ⟨_, rfl⟩
  have BS := Lib.hid hbase
  clear hbase SHA BM AD NE9 NEK
  go_wp2_with fail
  clear mh mhb
  go_loopw [12, 13] (fun vp vi wr => LkI n base w6 vp vi wr) (fun _ vi _ => n - (intOf vi).toNat)
  case atStart => exact ⟨0, _, rfl, rfl, Nat.zero_le _, RwOwn.nil _ _ _ _, Below.refl _ _⟩
  case round =>
    obtain ⟨k, pv, rfl, rfl, hk, hpv, hbel⟩ := hrel
    have PV := Lib.hid hpv
    have B := Lib.hid hbel
    clear hpv hbel
    by_cases hlt : k < n
    · have nb := NB.out.2.1
      obtain ⟨q, hq⟩ : ∃ q, q = 512 * k := ⟨_, rfl⟩
      obtain ⟨p, hp⟩ : ∃ p, p = 10000 + q := ⟨_, rfl⟩
      have m3 : IntKind.i64.wrap (512 * (k : Int)) = (q : Int) := by rw [IntKind.wrap_i64]; omega
      have m3b : wrap64 (512 * (k : Int)) = (q : Int) := by rw [← IntWalk.i64_left]; exact m3
      have m4 : IntKind.i64.wrap (10000 + (q : Int)) = (p : Int) := by rw [IntKind.wrap_i64]; omega
      have m4b : wrap64 (10000 + (q : Int)) = (p : Int) := by rw [← IntWalk.i64_left]; exact m4
      have m5 : IntKind.u32.wrap (p : Int) = (p : Int) := by rw [IntKind.wrap_u32]; omega
      have PE : Hid (p = 10000 + 512 * k) := by show _ = _; omega
      have DP : Hid (((lkPs k).map u32C).length ≤ 1000) := by show _ ≤ _; rw [List.length_map, lkPs_length]; omega
      have p1 : (k : Int) < (n : Int) := by omega
      clear hq hp
      obtain ⟨u0, hu, hy0, hy1, hy2⟩ := info_parts lk_info_u32
      go_wp2_with (at_builtin; refine wpList_append_own_at _ rfl _ _ 28 rfl base 23 u0 (.int .u32 0) 1 4 Tryz.underlying28 hu hy0 hy1 hy2 rfl (by decide) pv _ ((lkPs k).map u32C).flatten rfl (PV.out.1.alloc _) ⟨wr.heap.size, 0, none⟩ 1 1 [.int .u32 (p : Int)] rfl rfl (cell_one_new _ _ _) (fun u hu => by obtain rfl := List.mem_singleton.1 hu; rfl) (by have := DP.out; unfold maxLen; omega) (by have := DP.out; omega) (by have := BS.out; have := B.out.size; simp; omega) ?_; intro v4 w8 q1 q2 _ q4; have PV4 : Hid (RwOwn 1 23 base w8 v4 ((lkPs k).map u32C ++ [u32C p])) := RwOwn.push PV.out.2 rfl q1; have B5 := Lib.hid (own_grown (B.out.alloc B.out.size _) (by rw [BS.out]; exact Nat.le_refl _) (by have := B.out.size; simp; omega) (PV.out.1.alloc _) q2); clear q1 q2 q4; go_frame)
      clear hu hy0 hy1 hy2 u0
      go_roundw
      case rel =>
        refine ⟨k + 1, v4, rfl, by go_num, by omega, ?_, B5.out⟩
        rw [lkPs_succ, List.map_append, ← PE.out]
        exact PV4.out
      case measure => simp [intOf] <;> omega
    · have hkn : k = n := by omega
      have PV : Hid (RwOwn 1 23 base wr pv ((lkPs n).map u32C)) := by have h := PV.out; rw [hkn] at h; exact h
      have i2 : ¬ (k : Int) < (n : Int) := by omega
      have ST := Lib.hid (ST.out.below B.out)
      have FK := Lib.hid (row_below FK.out B.out)
      have F9 := Lib.hid (row_below F9.out B.out)
      have BB := Lib.hid (BB.out.trans (B.out.mono BB.out.size))
      have m6 := M6.out
      obtain ⟨ci, hci⟩ : ∃ c, c = inL (lkX kw) (.slice (some ⟨gk, 0, none⟩) 1 1) := ⟨_, rfl⟩
      have CIE := Lib.hid hci
      have LI : Hid (ci.length = 35) := by show _ = _; rw [hci]; exact inL_length _ _ rfl
      have BI : Hid (Tryz.prog.built 53 [(0, .agg cp.toArray), (1, .slice (some ⟨gk, 0, none⟩) 1 1), (2, .int .u32 (kw : Int))] = some ci.toArray) := by show _ = _; rw [hci, CPE.out]; kernel_rfl
      obtain ⟨co, hco⟩ : ∃ c, c = outL lkO := ⟨_, rfl⟩
      have COE := Lib.hid hco
      have LO : Hid (co.length = 33) := by show _ = _; rw [hco]; rfl
      have BO : Hid (Tryz.prog.built 65 [(0, .int .u64 4)] = some co.toArray) := by show _ = _; rw [hco]; kernel_rfl
      have TXZ : Hid (∀ a b : Nat, ([nV 2, .slice (some ⟨a, 0, none⟩) 1 1, .slice (some ⟨b, 0, none⟩) 1 1, nV 0] : List Value).toArray.all (·.oneCell') = true) := fun a b => all_oneCell_toArray fun v hv => by simp only [List.mem_cons, List.not_mem_nil, or_false] at hv; rcases hv with rfl | rfl | rfl | rfl <;> rfl
      clear hkn hlt hci hco B
      obtain ⟨i0, hi, hz0, hz1, hz2⟩ := info_parts info_in
      obtain ⟨o0, ho, hv0, hv1, hv2⟩ := info_parts info_out
      go_upto_region 18 with ((with_reducible show wpList _ _ _ _ _ _); first | (refine wpList_load_row rfl 50 (.tmp 9) rfl g9 rfl 50 cp.toArray (0, 0) _ F9.out Tryz.underlying50 rfl (by rw [LPZ.out]; kernel_rfl) ?_; go_frame) | (refine wpList_buildTo rfl 53 _ rfl _ rfl ci.toArray (by rw [← BI.out]; kernel_rfl) ?_; go_frame) | (refine wpList_slice_one rfl 24 53 (.tmp 56) rfl ci rfl Tryz.underlying24 i0 _ hi hz0 (by rw [hz1, LI.out]) (by rw [LI.out]; omega) (by rw [LI.out]; omega) ?_; have nf := heap_alloc_new wr (.cells (ci).toArray 53 (0, 0)); have bb := (Below.refl wr.heap.size wr).alloc (Nat.le_refl _) (.cells (ci).toArray 53 (0, 0)); obtain ⟨gi, hgi⟩ : ∃ g, g = wr.heap.size := ⟨_, rfl⟩; generalize hq : World.alloc _ _ = w8; have e2 : wr.alloc (.cells (ci).toArray 53 (0, 0)) = w8 := hq; rw [e2] at nf bb; rw [← hgi] at nf ⊢; have FI := Lib.hid nf; have GI := Lib.hid ((by show w.heap.size ≤ gi; rw [hgi]; exact BB.out.size : w.heap.size ≤ gi)); have PV := Lib.hid (PV.out.keep bb); have ST := Lib.hid (ST.out.below bb); have FK := Lib.hid (row_below FK.out bb); have BB := Lib.hid (BB.out.trans (bb.mono BB.out.size)); clear nf bb hq e2 hgi; go_frame) | (refine wpList_buildTo rfl 65 _ rfl _ rfl co.toArray (by rw [← BO.out]; kernel_rfl) ?_; go_frame) | (refine wpList_slice_one rfl 25 65 (.tmp 58) rfl co rfl Tryz.underlying25 o0 _ ho hv0 (by rw [hv1, LO.out]) (by rw [LO.out]; omega) (by rw [LO.out]; omega) ?_; have nf := heap_alloc_new w8 (.cells (co).toArray 65 (0, 0)); have bb := (Below.refl w8.heap.size w8).alloc (Nat.le_refl _) (.cells (co).toArray 65 (0, 0)); obtain ⟨go, hgo⟩ : ∃ g, g = w8.heap.size := ⟨_, rfl⟩; generalize hq : World.alloc _ _ = w9; have e2 : w8.alloc (.cells (co).toArray 65 (0, 0)) = w9 := hq; rw [e2] at nf bb; rw [← hgo] at nf ⊢; have FO := Lib.hid nf; have PV := Lib.hid (PV.out.keep bb); have ST := Lib.hid (ST.out.below bb); have FK := Lib.hid (row_below FK.out bb); have FI := Lib.hid (row_below FI.out bb); have BB := Lib.hid (BB.out.trans (bb.mono BB.out.size)); clear nf bb hq e2 hgo; go_frame) | (refine wpList_buildTo rfl 27 _ rfl _ rfl ([nV 2, .slice (some ⟨gi, 0, none⟩) 1 1, .slice (some ⟨go, 0, none⟩) 1 1, nV 0] : List Value).toArray (by kernel_rfl) ?_; go_frame) | (refine wpList_store_row rfl 27 (.tmp 14) (.tmp 60) rfl w9.heap.size ([nV 2, .slice (some ⟨gi, 0, none⟩) 1 1, .slice (some ⟨go, 0, none⟩) 1 1, nV 0] : List Value).toArray rfl rfl 27 _ (heap_alloc_new _ _) (by first | kernel_rfl | rfl) (by first | rfl | kernel_rfl) (TXZ.out gi go) ?_; go_frame))
      obtain ⟨_, f2, f3, f4⟩ := fill_setup (Below.refl w9.heap.size w9) ([nV 0, .slice none 0 0, .slice none 0 0, nV 0] : List Value).toArray ([nV 2, .slice (some ⟨gi, 0, none⟩) 1 1, .slice (some ⟨go, 0, none⟩) 1 1, nV 0] : List Value).toArray 27
      generalize hqw10 : World.setRow _ _ _ = w10
      have ew10 : World.setRow (w9.alloc (.cells ([nV 0, .slice none 0 0, .slice none 0 0, nV 0] : List Value).toArray 27)) w9.heap.size ([nV 2, .slice (some ⟨gi, 0, none⟩) 1 1, .slice (some ⟨go, 0, none⟩) 1 1, nV 0] : List Value).toArray = w10 := hqw10
      rw [ew10] at f2 f3 f4
      obtain ⟨g14, hg14⟩ : ∃ g14, g14 = w9.heap.size := ⟨_, rfl⟩
      rw [← hg14] at f2 ⊢
      have F14 := Lib.hid f2
      have Ng14 : Hid (w9.heap.size ≤ g14) := by show _ ≤ _; rw [hg14]; exact Nat.le_refl _
      have PV := Lib.hid (PV.out.keep f4)
      have ST := Lib.hid (ST.out.below f4)
      have FK := Lib.hid (row_below FK.out f4)
      have FI := Lib.hid (row_below FI.out f4)
      have FO := Lib.hid (row_below FO.out f4)
      have BB := Lib.hid (BB.out.trans (f4.mono BB.out.size))
      clear f2 f3 f4 hqw10 ew10 hg14
      clear m6 i2 F9 hi hz0 hz1 hz2 ho hv0 hv1 hv2
      have C1 : Hid (w10.cell? ⟨g14, 1, none⟩ = some (.slice (some ⟨gi, 0, none⟩) 1 1)) := by show _ = _; rw [cell_of_row _ _ _ _ _ _ F14.out]; rfl
      have FI : Hid (w10.heap[gi]? = some (.cells (inL (lkX kw) (.slice (some ⟨gk, 0, none⟩) 1 1)).toArray 53 (0, 0))) := by have h := FI.out; rw [CIE.out] at h; exact h
      have FO : Hid (w10.heap[go]? = some (.cells (outL lkO).toArray 65 (0, 0))) := by have h := FO.out; rw [COE.out] at h; exact h
      obtain ⟨eb, heb⟩ : ∃ b, b = decide (a1 < kw) := ⟨_, rfl⟩
      have EB : Hid (eb = decide ((n : Int) - 3 < (kw : Int))) := by show _ = _; rw [NB.out.2.2.2, heb]; exact decide_eq_decide.2 (by omega)
      have m7 := M7.out
      have m7b := M7b.out
      have m8 := M8.out
      have m8b := M8b.out
      cases time with
      | false =>
        have MB : Hid (metB (lkT kw) [3] [11024] (n : Int) (10000 + 512 * (n - 1)) = !eb) := by show _ = _; rw [EB.out]; exact lk_met (by have := NB.out; omega) NB.out.1
        obtain ⟨ct, hct⟩ : ∃ c, c = ([nV 2, .slice (some ⟨gi, 0, none⟩) 1 1, .slice (some ⟨go, 0, none⟩) 1 1, nV 0] : List Value) := ⟨_, rfl⟩
        have LTX : Hid (ct.toArray.size = 4) := by show _ = _; rw [hct]; rfl
        have TXA : Hid (TxAt w10 (.agg ct.toArray) (lkT kw)) := ⟨⟨by show 2 ≤ _; omega, by show 0 ≤ _; omega⟩, _, _, by rw [hct]; rfl, insAt_one FI.out ⟨rfl, Nat.zero_le _, by show kw ≤ _; have := NB.out; omega⟩ (lk_key FK.out), outsAt_one FO.out ⟨rfl, by show 4 ≤ _; omega⟩⟩
        have F14 : Hid (w10.heap[g14]? = some (.cells ct.toArray 27 (0, 0))) := by show _ = _; rw [hct]; exact F14.out
        clear hct
        go_upto_region 22 with fail
        rw [← heb]
        clear heb
        have GE := set_get ST.out (l := [⟨lkP, lkC⟩]) (fun x hx => by rw [List.mem_singleton.1 hx]; show (0 : Int) ≤ 3 ∧ (3 : Int) ≤ 1000000; omega)
        have CT := cotx_any E w10 (.agg ct.toArray) pv (lkT kw) _ _ _ _ (n : Int) 0 (lkPs n) TXA.out GE (u32_at (PV.out.at (by omega))) (by show 1 ≤ 1000000; omega) (by show 1 ≤ 1000000; omega) (by rw [lkPs_length]; have := NB.out; omega) (fun p hp => by obtain ⟨i, hi, rfl⟩ := List.mem_map.1 hp; have := List.mem_range.1 hi; have := NB.out; show 10000 + 512 * i ≤ _; omega) (by omega) (HE.out.below BB.out).co (fun W hW => HK.out.below (BB.out.trans (hW.mono BB.out.size)))
        rw [lk_co (b := !eb) NB.out.1 MB.out] at CT
        have CT := Lib.hid CT
        clear GE
        go_wp2_with ((with_reducible show wpList _ _ _ _ _ _); (refine wpList_load_row rfl 27 (.tmp 14) rfl g14 rfl 27 ct.toArray (0, 0) _ F14.out Tryz.underlying27 rfl (by rw [LTX.out]; kernel_rfl) ?_; go_frame))
        refine CT.out.mono ?_
        rintro e wz ⟨u, rfl, hfl, bb⟩
        have BZ := Lib.hid (BB.out.trans (bb.mono BB.out.size))
        have FL := Lib.hid hfl
        clear hfl bb CT
        cases eb with
        | true =>
          have hu : u = errV E 16 := flt_bare' (w := wz) FL.out
          subst hu
          go_wp2_with fail
          refine (is_any E 16 116 true rfl wz (HE.out.below BZ.out) (by omega)).mono ?_
          rintro e wy ⟨rfl, bb⟩
          have BY := Lib.hid (BZ.out.trans (bb.mono BZ.out.size))
          clear bb
          go_wp2_with fail
          go_ret
          exact ⟨rfl, BY.out⟩
        | false =>
          have hu : u = .nilIface := flt_bare' (c := 0) (w := wz) FL.out
          subst hu
          go_wp2_with fail
          go_ret
          exact ⟨rfl, BZ.out⟩
      | true =>
        have C34 : Hid (w10.cell? ⟨gi, 34, none⟩ = some (.int .u32 (kw : Int))) := by show _ = _; rw [cell_of_row _ _ _ _ _ _ FI.out]; rfl
        obtain ⟨s2, hs2, TB, s2b⟩ := time_names (n := kw) (by have := NB.out; omega)
        have S2 := hs2
        have MB : Hid (metB (lkT s2) [3] [11024] (n : Int) (10000 + 512 * (n - 1)) = !eb) := by show _ = _; rw [EB.out, S2.out]; exact lk_metT (by have := NB.out; omega) NB.out.1
        go_upto_region 20 with fail
        refine wp_region_end (fun w' => Below w10.heap.size w10 w') [10] (by kernel_rfl) (Below.drew (Below.refl _ _)) (fun hHeld => ?_)
        generalize hwd : w10.drew = wd at  hHeld ⊢
        clear hwd
        refine end_take (i := 0) (v := (.pointer (some ⟨g14, 1, none⟩))) rfl (by kernel_rfl) (by kernel_rfl) (by kernel_rfl) (by kernel_rfl) (fun _ _ _ h => h) (Or.inl ⟨by rfl, fun w' _ => by kernel_rfl⟩) hHeld ?_
        go_frame
        refine end_take (i := 1) (v := (.slice (some ⟨gi, 0, none⟩) 1 1)) rfl (by kernel_rfl) (by kernel_rfl) (by kernel_rfl) (by kernel_rfl) (fun _ _ _ h => h) (yieldsIf_load_one (by rfl) 24 (.tmp 65) rfl g14 (1) rfl _ _ (fun w' hw' => cell_below C1.out hw') Tryz.underlying24 rfl) hHeld ?_
        go_frame
        refine end_take (i := 2) (v := (.pointer (some ⟨g14, 1, none⟩))) rfl (by kernel_rfl) (by kernel_rfl) (by kernel_rfl) (by kernel_rfl) (fun _ _ _ h => h) (Or.inl ⟨by rfl, fun w' _ => by kernel_rfl⟩) hHeld ?_
        go_frame
        refine end_take (i := 3) (v := (.slice (some ⟨gi, 0, none⟩) 1 1)) rfl (by kernel_rfl) (by kernel_rfl) (by kernel_rfl) (by kernel_rfl) (fun _ _ _ h => h) (yieldsIf_load_one (by rfl) 24 (.tmp 67) rfl g14 (1) rfl _ _ (fun w' hw' => cell_below C1.out hw') Tryz.underlying24 rfl) hHeld ?_
        go_frame
        refine end_take (i := 4) (v := (.pointer (some ⟨gi, 0, none⟩))) rfl (by kernel_rfl) (by kernel_rfl) (by kernel_rfl) (by kernel_rfl) (fun _ _ _ h => h) (Or.inl ⟨by rfl, fun w' _ => by go_simp⟩) hHeld ?_
        go_frame
        refine end_take (i := 5) (v := (.pointer (some ⟨gi, 34, none⟩))) rfl (by kernel_rfl) (by kernel_rfl) (by kernel_rfl) (by kernel_rfl) (fun _ _ _ h => h) (Or.inl ⟨by rfl, fun w' _ => by kernel_rfl⟩) hHeld ?_
        go_frame
        refine end_take (i := 6) (v := (.int .u32 (kw : Int))) rfl (by kernel_rfl) (by kernel_rfl) (by kernel_rfl) (by kernel_rfl) (fun _ _ _ h => h) (yieldsIf_load_one (by rfl) 23 (.tmp 70) rfl gi (34) rfl _ _ (fun w' hw' => cell_below C34.out hw') Tryz.underlying23 rfl) hHeld ?_
        go_frame
        refine end_take (i := 7) (v := (.int .u32 (s2 : Int))) rfl (by kernel_rfl) (by kernel_rfl) (by kernel_rfl) (by kernel_rfl) (fun _ _ _ h => h) (Or.inl ⟨by rfl, fun w' _ => by go_simp; rw [TB.out]⟩) hHeld ?_
        go_frame
        refine end_take (i := 8) (v := (.pointer (some ⟨gi, 0, none⟩))) rfl (by kernel_rfl) (by kernel_rfl) (by kernel_rfl) (by kernel_rfl) (fun _ _ _ h => h) (Or.inl ⟨by rfl, fun w' _ => by go_simp⟩) hHeld ?_
        go_frame
        refine end_take (i := 9) (v := (.pointer (some ⟨gi, 34, none⟩))) rfl (by kernel_rfl) (by kernel_rfl) (by kernel_rfl) (by kernel_rfl) (fun _ _ _ h => h) (Or.inl ⟨by rfl, fun w' _ => by kernel_rfl⟩) hHeld ?_
        go_frame
        refine end_last (i := 10) (by kernel_rfl) (by kernel_rfl) rfl (fun K hK => ?_)
        rw [if_pos (by rfl)]
        have FIa := Lib.hid (row_below FI.out hHeld)
        have KPa := Lib.hid hHeld
        refine wp_store_part 23 (.tmp 74) (.tmp 72) rfl gi 34 (ptL lkH 0 ++ [.slice (some ⟨gk, 0, none⟩) 1 1]) [nV kw] [] [nV s2] 53 (nV s2) rfl rfl rfl rfl rfl (by rw [List.append_nil]; exact FIa.out) (by kernel_rfl) (one_mem rfl) ?_
        intro v1 q1 q2
        rw [List.append_nil] at q1
        have FN : Hid (v1.heap[gi]? = some (.cells (inL (lkX s2) (.slice (some ⟨gk, 0, none⟩) 1 1)).toArray 53 (0, 0))) := q1
        have GN := Lib.hid q2
        clear q1 q2 hHeld FIa
        go_frame
        refine hK.out _ _ ?_
        clear hK K
        refine end_done (by kernel_rfl) ?_ _
        obtain ⟨w11, hw11⟩ : ∃ w, w = v1 := ⟨_, rfl⟩
        rw [← hw11] at FN GN ⊢
        clear hw11
        have KP : Hid (Kps (fun j => j ≠ gi) w10 w11) := (Kps.new KPa.out).trans (Kps.grown GN.out (fun k _ h e => h (Option.some.inj e)))
        have N1 := lk_ne F14.out FI.out (by decide)
        have N2 := lk_ne FO.out FI.out (by decide)
        have N3 := lk_ne FK.out FI.out (by decide)
        have N4 := ST.out.boxne (by decide) FI.out
        have N5 := ST.out.rowne FI.out
        have N6 := own_ne' PV.out.1 FI.out (by decide)
        have F14 := Lib.hid (row_kps F14.out KP.out N1)
        have FO := Lib.hid (row_kps FO.out KP.out N2)
        have FK := Lib.hid (row_kps FK.out KP.out N3)
        have ST := Lib.hid (ST.out.kps KP.out (fun e => N4 e.symm) (fun q e e' => N5 (by rw [e, e'])))
        have PV : Hid (RwOwn 1 23 base w11 pv ((lkPs n).map u32C)) := ⟨own_kpsB PV.out.1 KP.out (fun g e e' => N6 (by rw [e, e'])), PV.out.2⟩
        have BB := Lib.hid ((BB.out.trans (KPa.out.mono BB.out.size)).grown GN.out (Nat.le_trans BB.out.size KPa.out.size) (fun k hk => by cases hk; exact GI.out))
        obtain ⟨ct, hct⟩ : ∃ c, c = ([nV 2, .slice (some ⟨gi, 0, none⟩) 1 1, .slice (some ⟨go, 0, none⟩) 1 1, nV 0] : List Value) := ⟨_, rfl⟩
        have LTX : Hid (ct.toArray.size = 4) := by show _ = _; rw [hct]; rfl
        have TXA : Hid (TxAt w11 (.agg ct.toArray) (lkT s2)) := ⟨⟨by show 2 ≤ _; omega, by show 0 ≤ _; omega⟩, _, _, by rw [hct]; rfl, insAt_one FN.out ⟨rfl, Nat.zero_le _, by show s2 ≤ _; have := s2b.out; omega⟩ (lk_key FK.out), outsAt_one FO.out ⟨rfl, by show 4 ≤ _; omega⟩⟩
        have F14 : Hid (w11.heap[g14]? = some (.cells ct.toArray 27 (0, 0))) := by show _ = _; rw [hct]; exact F14.out
        clear hct N1 N2 N3 N4 N5 N6 KP GN KPa FN FI
        go_upto_region 22 with fail
        rw [← heb]
        clear heb
        have GE := set_get ST.out (l := [⟨lkP, lkC⟩]) (fun x hx => by rw [List.mem_singleton.1 hx]; show (0 : Int) ≤ 3 ∧ (3 : Int) ≤ 1000000; omega)
        have CT := cotx_any E w11 (.agg ct.toArray) pv (lkT s2) _ _ _ _ (n : Int) 0 (lkPs n) TXA.out GE (u32_at (PV.out.at (by omega))) (by show 1 ≤ 1000000; omega) (by show 1 ≤ 1000000; omega) (by rw [lkPs_length]; have := NB.out; omega) (fun p hp => by obtain ⟨i, hi, rfl⟩ := List.mem_map.1 hp; have := List.mem_range.1 hi; have := NB.out; show 10000 + 512 * i ≤ _; omega) (by omega) (HE.out.below BB.out).co (fun W hW => HK.out.below (BB.out.trans (hW.mono BB.out.size)))
        rw [lk_co (b := !eb) NB.out.1 MB.out] at CT
        have CT := Lib.hid CT
        clear GE
        go_wp2_with ((with_reducible show wpList _ _ _ _ _ _); (refine wpList_load_row rfl 27 (.tmp 14) rfl g14 rfl 27 ct.toArray (0, 0) _ F14.out Tryz.underlying27 rfl (by rw [LTX.out]; kernel_rfl) ?_; go_frame))
        refine CT.out.mono ?_
        rintro e wz ⟨u, rfl, hfl, bb⟩
        have BZ := Lib.hid (BB.out.trans (bb.mono BB.out.size))
        have FL := Lib.hid hfl
        clear hfl bb CT
        cases eb with
        | true =>
          have hu : u = errV E 16 := flt_bare' (w := wz) FL.out
          subst hu
          go_wp2_with fail
          refine (is_any E 16 116 true rfl wz (HE.out.below BZ.out) (by omega)).mono ?_
          rintro e wy ⟨rfl, bb⟩
          have BY := Lib.hid (BZ.out.trans (bb.mono BZ.out.size))
          clear bb
          go_wp2_with fail
          go_ret
          exact ⟨rfl, BY.out⟩
        | false =>
          have hu : u = .nilIface := flt_bare' (c := 0) (w := wz) FL.out
          subst hu
          go_wp2_with fail
          go_ret
          exact ⟨rfl, BZ.out⟩
end Go.Proofs.YtckkcpplanfmhaaGreatDoor.Sha

/-
  What a row that lists 25 errors of package api gives: each is there, each its own; a start that fits. No conditions.
-/
namespace Go.Proofs.YtckkcpplanfmhaaGreatDoor.Sha
open Go Go.ChangeShapes Go.WideShapes Go.ChangeAt Go.RowKit
/-- The listed errors: name, place, text. -/
def errCtxList : List (String × Nat × List UInt8) := [("sargasso/api.ErrEnd", 15, [105, 116, 32, 101, 110, 100, 115, 32, 116, 111, 111, 32, 101, 97, 114, 108, 121]), ("sargasso/api.ErrShape", 0, [110, 111, 116, 32, 97, 115, 32, 105, 116, 32, 104, 97, 115, 32, 116, 111, 32, 98, 101]), ("sargasso/api.ErrLong", 12, [116, 111, 111, 32, 108, 111, 110, 103]), ("sargasso/api.ErrMany", 11, [116, 111, 111, 32, 109, 97, 110, 121, 44, 32, 111, 114, 32, 116, 111, 111, 32, 102, 101, 119]), ("sargasso/api.ErrValue", 2, [97, 110, 32, 97, 109, 111, 117, 110, 116, 32, 116, 104, 97, 116, 32, 99, 97, 110, 39, 116, 32, 98, 101]), ("sargasso/api.ErrTwice", 3, [111, 110, 101, 32, 116, 104, 105, 110, 103, 32, 116, 119, 105, 99, 101]), ("sargasso/api.ErrBase", 10, [110, 111, 32, 102, 105, 114, 115, 116, 32, 116, 114, 97, 110, 115, 97, 99, 116, 105, 111, 110, 32, 119, 104, 101, 114, 101, 32, 116, 104, 101, 114, 101, 32, 104, 97, 115, 32, 116, 111, 32, 98, 101, 32, 111, 110, 101, 44, 32, 111, 114, 32, 111, 110, 101, 32, 119, 104, 101, 114, 101, 32, 116, 104, 101, 114, 101, 32, 109, 97, 121, 32, 98, 101, 32, 110, 111, 110, 101]), ("sargasso/api.ErrRoot", 13, [97, 32, 114, 111, 111, 116, 32, 116, 104, 97, 116, 32, 100, 111, 101, 115, 32, 110, 111, 116, 32, 102, 105, 116]), ("sargasso/api.ErrKnown", 16, [107, 110, 111, 119, 110, 32, 97, 108, 114, 101, 97, 100, 121]), ("sargasso/api.ErrParent", 17, [110, 111, 32, 115, 117, 99, 104, 32, 112, 97, 114, 101, 110, 116]), ("sargasso/api.ErrInvalid", 18, [98, 101, 104, 105, 110, 100, 32, 119, 104, 97, 116, 32, 105, 115, 32, 110, 111, 116, 32, 118, 97, 108, 105, 100]), ("sargasso/api.ErrTime", 9, [97, 32, 116, 105, 109, 101, 32, 116, 104, 97, 116, 32, 105, 115, 32, 116, 111, 111, 32, 101, 97, 114, 108, 121]), ("sargasso/api.ErrMissing", 5, [97, 32, 99, 111, 105, 110, 32, 116, 104, 97, 116, 32, 105, 115, 32, 110, 111, 116, 32, 116, 104, 101, 114, 101]), ("sargasso/api.ErrKey", 7, [97, 32, 107, 101, 121, 32, 116, 104, 97, 116, 32, 100, 111, 101, 115, 32, 110, 111, 116, 32, 102, 105, 116]), ("sargasso/api.ErrYoung", 6, [97, 32, 99, 111, 105, 110, 32, 116, 104, 97, 116, 32, 105, 115, 32, 116, 111, 111, 32, 121, 111, 117, 110, 103]), ("sargasso/api.ErrEarly", 1, [116, 111, 111, 32, 101, 97, 114, 108, 121, 32, 116, 111, 32, 98, 101, 32, 116, 97, 107, 101, 110]), ("sargasso/api.ErrLess", 8, [108, 101, 115, 115, 32, 99, 111, 109, 101, 115, 32, 105, 110, 32, 116, 104, 97, 110, 32, 103, 111, 101, 115, 32, 111, 117, 116]), ("sargasso/api.ErrReward", 4, [109, 111, 114, 101, 32, 116, 104, 97, 110, 32, 116, 104, 101, 32, 114, 101, 119, 97, 114, 100]), ("sargasso/api.ErrClash", 19, [97, 32, 99, 111, 105, 110, 32, 116, 104, 97, 116, 32, 105, 115, 32, 115, 112, 101, 110, 116, 32, 105, 110, 32, 116, 104, 101, 32, 112, 111, 111, 108]), ("sargasso/api.ErrLimit", 20, [116, 111, 111, 32, 109, 97, 110, 121, 32, 116, 104, 97, 116, 32, 104, 97, 110, 103, 32, 116, 111, 103, 101, 116, 104, 101, 114]), ("sargasso/api.ErrFull", 21, [116, 104, 101, 114, 101, 32, 105, 115, 32, 110, 111, 32, 114, 111, 111, 109]), ("sargasso/api.ErrRange", 22, [97, 32, 110, 117, 109, 98, 101, 114, 32, 111, 117, 116, 32, 111, 102, 32, 105, 116, 115, 32, 114, 97, 110, 103, 101]), ("sargasso/api.ErrNone", 23, [116, 104, 101, 114, 101, 32, 105, 115, 32, 110, 111, 110, 101]), ("sargasso/api.ErrWord", 24, [110, 111, 32, 115, 117, 99, 104, 32, 119, 111, 114, 100]), ("sargasso/api.ErrNumber", 25, [110, 111, 116, 32, 97, 32, 110, 117, 109, 98, 101, 114])]
def errCtxRow (x : String × Nat × List UInt8) : String × DataW Unit := (x.1, .iface "*errors.errorString" (.ptr (.agg [.lit (.string x.2.2)])))
theorem errCtx_globals : (errCtxList.all fun x => decide (Tryz.prog.globalNamed x.1 = some x.2.1) && decide ((Tryz.prog.globals[x.2.1]?).map (·.type) = some 37)) = true := by kernel_rfl
theorem errCtx_star : "*" ++ "errors.errorString" = "*errors.errorString" := by decide
theorem errCtx_ptr (u : TypeId) (h : Tryz.prog.typeName? 3 u = some "*errors.errorString") : u = 250 :=
  typeName_ptr_named (nm := "errors.errorString") (by rw [errCtx_star]; kernel_rfl) (by kernel_rfl) (by decide) u (by rw [errCtx_star]; exact h)
theorem errCtx_cells : Tryz.prog.cellsOf 267 = 1 := by kernel_rfl
theorem errCtx_cellsStr : Tryz.prog.cellsOf 9 = 1 := by kernel_rfl
def errCtxIs (W : World) (x : String × Nat × List UInt8) (a : Addr) : Prop :=
  W.cell? ⟨x.2.1, 0, none⟩ = some (.iface 250 (.pointer (some a))) ∧ (∃ s, W.cell? a = some (.string s) ∧ s.data.toList = x.2.2) ∧ ∃ c t, W.heap[a.block]? = some (.cells c t (0, 0))
set_option maxRecDepth 100000 in
theorem errCtx_head {W : World} {x : String × Nat × List UInt8} {r : List (String × DataW Unit)} (hg : Tryz.prog.globalNamed x.1 = some x.2.1) (ht : (Tryz.prog.globals[x.2.1]?).map (·.type) = some 37) (h : laidMet Tryz.prog (errCtxRow x :: r) W) : ∃ a, errCtxIs W x a := by
  obtain ⟨a, s, h1, h2, h3, _⟩ := laid_sentinel h hg ht Tryz.underlying37 errCtx_ptr Tryz.underlying250 Tryz.underlying267 rfl rfl Tryz.underlying9 errCtx_cells errCtx_cellsStr
  refine ⟨a, by simpa using World.var?_cell hg h1 0, ⟨s, h2, h3⟩, ?_⟩
  obtain ⟨ps, ⟨g0, t0, cs0, f0, p0, q0, hg0, ht0, hv0, hd0, _, e0⟩, _, hrows⟩ := h
  obtain rfl := Option.some.inj (hg.symm.trans hg0)
  obtain rfl := Option.some.inj (ht.symm.trans ht0)
  subst e0
  obtain ⟨l0⟩ := cs0
  have ok0 : ∀ u v, l0 = [.iface u v] → Value.okWide Tryz.prog W .any 0 u v := fun u v e => by
    subst e
    exact (hrows x.2.1 0 (by simp [MemPlace.row])).2 u v (by simpa using World.var?_cell hg hv0 0)
  obtain ⟨a0, s0, rfl, hc0, hs0, hz0, rfl⟩ := errorString_of_trod Tryz.underlying37 errCtx_ptr Tryz.underlying250 Tryz.underlying267 rfl rfl Tryz.underlying9 errCtx_cells errCtx_cellsStr hd0 ok0
  have ea : a0 = a := by
    have := h1.symm.trans hv0
    simp at this
    exact this.symm
  rw [← ea]
  exact (hrows a0.block a0.off (by simp [MemPlace.row])).1
theorem errCtx_all {W : World} (rest : List (String × DataW Unit)) : ∀ l : List (String × Nat × List UInt8), (∀ x ∈ l, Tryz.prog.globalNamed x.1 = some x.2.1 ∧ (Tryz.prog.globals[x.2.1]?).map (·.type) = some 37) → laidMet Tryz.prog (l.map errCtxRow ++ rest) W → (∃ E : Nat → Addr, ∀ i x, l[i]? = some x → errCtxIs W x (E i)) ∧ laidMet Tryz.prog rest W
  | [], _, h => ⟨⟨fun _ => ⟨0, 0, none⟩, fun i x h => by simp at h⟩, h⟩
  | x :: l, hg, h => by
    obtain ⟨⟨E, hE⟩, hrest⟩ := errCtx_all rest l (fun y hy => hg y (List.mem_cons_of_mem _ hy)) (laidMet.tail h)
    obtain ⟨a, ha⟩ := errCtx_head (hg x List.mem_cons_self).1 (hg x List.mem_cons_self).2 h
    refine ⟨⟨fun i => match i with | 0 => a | k + 1 => E k, fun i y hy => ?_⟩, hrest⟩
    cases i with
    | zero => simp at hy; subst hy; exact ha
    | succ k => exact hE k y (by simpa using hy)
theorem errCtx_inj : ∀ i j : Fin 25, (errCtxList.map (·.2.2)).getD i.val [] = (errCtxList.map (·.2.2)).getD j.val [] → i = j := by decide +kernel
set_option maxRecDepth 100000 in
theorem errCtx_errs {W : World} (h : laidMetH Tryz.prog Rows.connTxRow.laid W) : (∃ E, Errs W E) ∧ KTab W := by
  have h' : laidMet Tryz.prog (errCtxList.map errCtxRow ++ [("sargasso/digest.roundWords", Rows.laid_sargasso_digest_roundWords)]) W := h
  obtain ⟨⟨E, hE⟩, hrest⟩ := errCtx_all _ errCtxList (fun x hx => by
    have := List.all_eq_true.1 errCtx_globals x hx
    simp only [Bool.and_eq_true, decide_eq_true_eq] at this
    exact this) h'
  have hl : errCtxList.length = 25 := rfl
  have get : ∀ i (hi : i < 25), errCtxIs W (errCtxList[i]'(by rw [hl]; exact hi)) (E i) := fun i hi => hE i _ (List.getElem?_eq_getElem (by rw [hl]; exact hi))
  refine ⟨⟨E, fun i hi => ?_, fun i j hi hj e => ?_⟩, table hrest⟩
  · obtain ⟨h1, _, h3⟩ := get i hi
    refine ⟨?_, h3⟩
    have eg : errG.getD i 0 = (errCtxList[i]'(by rw [hl]; exact hi)).2.1 := by
      have : errG = errCtxList.map (·.2.1) := rfl
      rw [this]
      simp [List.getD, List.getElem?_eq_getElem (show i < errCtxList.length by rw [hl]; exact hi)]
    rw [eg]
    exact h1
  · obtain ⟨_, ⟨s, hs, ht⟩, _⟩ := get i hi
    obtain ⟨_, ⟨s', hs', ht'⟩, _⟩ := get j hj
    rw [e] at hs
    have es := Option.some.inj (hs.symm.trans hs')
    simp at es
    rw [es] at ht
    have := errCtx_inj ⟨i, hi⟩ ⟨j, hj⟩ (by
      simp only [List.getD, List.getElem?_map]
      rw [List.getElem?_eq_getElem (show i < errCtxList.length by rw [hl]; exact hi), List.getElem?_eq_getElem (show j < errCtxList.length by rw [hl]; exact hj)]
      exact ht.symm.trans ht')
    exact congrArg Fin.val this
/-- A WORLD FOR THE WITNESS: the settled one, each listed error as its initialiser lays it. -/
noncomputable def errCtxLow : Nat := (World.holding Tryz.prog default ⟨#[], #[], []⟩).heap.size
noncomputable def errCtxWorld (os : Os) : World :=
  let w0 := World.holding Tryz.prog os ⟨(errCtxList.map fun x => Obj.cells #[.string ⟨x.2.2.toArray⟩] 267).toArray, #[], []⟩
  { w0 with heap := (errCtxList.zipIdx).foldl (fun h x => h.modify x.1.2.1 fun
      | .cells _ t frozen => .cells #[.iface 250 (.pointer (some ⟨errCtxLow + x.2, 0, none⟩))] t frozen
      | o => o) (w0.heap.modify 14 fun
      | .cells _ t frozen => .cells (kList.map wV).toArray t frozen
      | o => o) }
end Go.Proofs.YtckkcpplanfmhaaGreatDoor.Sha

/-
  How coins that came in read: a coin, a place, a slice of coins with their places, a slice of what a set is told. No conditions.
-/
namespace Go.Proofs.YtckkcpplanfmhaaGreatDoor.Sha
open Go Go.ChangeShapes Go.WideShapes Go.ChangeAt Go.RowKit Go.Deep
theorem mn_fields : (Tryz.prog.fieldsOf 46).toList.map (fun f => (f.name, f.type, f.offset)) = [("Value", 35, 0), ("Lock", 44, 1), ("Height", 3, 33), ("Base", 4, 34)] := by kernel_rfl
theorem mn_under : Tryz.prog.underlying 46 = some (.struct (Tryz.prog.fieldsOf 46)) := by kernel_rfl
theorem sp_fields : (Tryz.prog.fieldsOf 84).toList.map (fun f => (f.name, f.type, f.offset)) = [("At", 50, 0), ("Coin", 46, 33)] := by kernel_rfl
theorem sp_under : Tryz.prog.underlying 84 = some (.struct (Tryz.prog.fieldsOf 84)) := by kernel_rfl
set_option maxRecDepth 100000 in
theorem mn_cells {H : Type} {enc : TypeId × Value → H} {W : World} {fuel : Nat} {cs : List Value} {x : DataW H × List MemPlace} (hf : DataW.trod enc Tryz.prog W 0 (fun _ => true) true fuel 46 cs = some x) :
    ∃ c : TMn, MnOk c ∧ cs = mnL c := by
  have c24 : Tryz.prog.cellsOf 44 = 32 := by kernel_rfl
  have c55 : Tryz.prog.cellsOf 35 = 1 := by kernel_rfl
  have c3 : Tryz.prog.cellsOf 3 = 1 := by kernel_rfl
  have c4 : Tryz.prog.cellsOf 4 = 1 := by kernel_rfl
  have c57 : Tryz.prog.cellsOf 46 = 35 := by kernel_rfl
  obtain ⟨hlen, m, hel⟩ := struct_field mn_under hf mn_fields
  rw [c57] at hlen
  obtain ⟨y0, g0⟩ := hel 0 _ _ _ rfl
  obtain ⟨y1, g1⟩ := hel 1 _ _ _ rfl
  obtain ⟨y2, g2⟩ := hel 2 _ _ _ rfl
  obtain ⟨y3, g3⟩ := hel 3 _ _ _ rfl
  rw [c55, List.drop_zero] at g0
  rw [c24] at g1
  rw [c3] at g2
  rw [c4] at g3
  obtain ⟨z, hz, _, hw⟩ := DataW.trod_int Tryz.underlying35 g0
  have hbd := bounds_u64 hw
  obtain ⟨bs, hb, hcs⟩ := hash_cells g1
  obtain ⟨t, ht, _, hwt⟩ := DataW.trod_int Tryz.underlying3 g2
  have hbt := bounds_i64 hwt
  obtain ⟨b, hbb⟩ : ∃ b, (cs.drop 34).take 1 = [.bool b] := by
    obtain ⟨b, hb, _⟩ := DataW.trod_bool Tryz.underlying4 g3
    exact ⟨b, hb⟩
  refine ⟨⟨z.toNat, bs, t, b⟩, ⟨hb, by show z.toNat ≤ _; omega, hbt.1, hbt.2⟩, ?_⟩
  rw [List.take_of_length_le (by rw [List.length_drop]; omega)] at hbb
  have e3 : cs.drop 33 = [.int .i64 t, .bool b] := by
    rw [← List.take_append_drop 1 (cs.drop 33), ht, List.drop_drop, hbb]
    rfl
  have e1 : cs.drop 1 = bs.map bV ++ [.int .i64 t, .bool b] := by
    rw [← List.take_append_drop 32 (cs.drop 1), hcs, List.drop_drop, e3]
  show cs = .int .u64 ((z.toNat : Nat) : Int) :: (bs.map bV ++ [.int .i64 t, .bool b])
  rw [← e1, Int.toNat_of_nonneg (by omega), ← List.take_append_drop 1 cs, hz]
  rfl
set_option maxRecDepth 100000 in
theorem sp_cells {H : Type} {enc : TypeId × Value → H} {W : World} {fuel : Nat} {cs : List Value} {x : DataW H × List MemPlace} (hf : DataW.trod enc Tryz.prog W 0 (fun _ => true) true fuel 84 cs = some x) :
    ∃ y : TSp, SpOk y ∧ cs = spL y := by
  have c27 : Tryz.prog.cellsOf 50 = 33 := by kernel_rfl
  have c39 : Tryz.prog.cellsOf 46 = 35 := by kernel_rfl
  have c45 : Tryz.prog.cellsOf 84 = 68 := by kernel_rfl
  obtain ⟨hlen, m, hel⟩ := struct_field sp_under hf sp_fields
  rw [c45] at hlen
  obtain ⟨y0, g0⟩ := hel 0 _ _ _ rfl
  obtain ⟨y1, g1⟩ := hel 1 _ _ _ rfl
  rw [c27, List.drop_zero] at g0
  rw [c39, List.take_of_length_le (by rw [List.length_drop]; omega)] at g1
  obtain ⟨bs, n, hb, hp⟩ := pt_cells g0
  obtain ⟨c, hc, hm⟩ := mn_cells g1
  exact ⟨⟨⟨bs, n⟩, c⟩, ⟨hb, hc⟩, by show cs = ptL bs n ++ mnL c; rw [← hp, ← hm, List.take_append_drop]⟩
/-- A slice of elements of k cells each, however each reads. -/
theorem rows_cells {H : Type} {enc : TypeId × Value → H} {W : World} {fuel : Nat} {cs : List Value} {x : DataW H × List MemPlace} {T t : TypeId} {α : Type} {f : α → List Value} {P : α → Prop} {k : Nat} (hk : 0 < k) (hu : Tryz.prog.underlying T = some (.slice t)) (hc : Tryz.prog.cellsOf t = k)
    (hel : ∀ {fuel : Nat} {cs : List Value} {x : DataW H × List MemPlace}, DataW.trod enc Tryz.prog W 0 (fun _ => true) true fuel t cs = some x → ∃ y : α, P y ∧ cs = f y) (hlen : ∀ y, P y → (f y).length = k)
    (hf : DataW.trod enc Tryz.prog W 0 (fun _ => true) true fuel T cs = some x) : ∃ (v : Value) (l : List α), cs = [v] ∧ RwAt k W v (l.map f) ∧ (∀ y ∈ l, P y) ∧ l.length ≤ 9223372036854775807 := by
  rcases open_slice hu hf with ⟨hcs, _⟩ | ⟨a, len, cap, m, n, D, Pl, hcs, hb, hl, hm, hmm, hx, hi⟩
  · exact ⟨_, [], hcs, RwAt.nil _ _ _ _, fun y hy => by simp at hy, by simp⟩
  · have hmc : m = cap := by rw [hmm]; simp
    rw [hc] at hi
    have each : ∀ i, i < len → ∃ y : α, P y ∧ ∃ b o, a.add (i * k) = ⟨b, o, none⟩ ∧ W.rangeAt b o (f y) := fun i him => by
      obtain ⟨cs', hc', ht⟩ := hi i (by omega)
      obtain ⟨y, h1, h4⟩ := hel ht
      obtain ⟨b, o, hab, hr⟩ := range_of_cells hc' hk
      exact ⟨y, h1, b, o, hab, by rw [← h4]; exact hr⟩
    obtain ⟨l, hll, hp⟩ := list_of_each len each
    have hmem : ∀ y ∈ l, P y := fun y hy => by
      obtain ⟨i, hi2⟩ := List.getElem?_of_mem hy
      exact (hp i y hi2).1
    refine ⟨_, l, hcs, ⟨fun x hx => ?_, _, cap, by rw [List.length_map, hll], by rw [List.length_map]; omega, fun h0 => ?_⟩, hmem, by unfold maxLen at hm; omega⟩
    · obtain ⟨y, hy, rfl⟩ := List.mem_map.1 hx
      exact hlen y (hmem y hy)
    · rw [List.length_map] at h0
      obtain ⟨x0, hx0⟩ : ∃ x0, l[0]? = some x0 := ⟨_, List.getElem?_eq_getElem h0⟩
      obtain ⟨_, b, o, hab, _⟩ := hp 0 x0 hx0
      obtain ⟨ab, ao, asp⟩ := a
      have hsp : asp = none := by
        have := congrArg Addr.spot hab
        simpa [Addr.add] using this
      subst hsp
      refine ⟨ab, ao, rfl, fun i z hz => ?_⟩
      rw [List.getElem?_map] at hz
      obtain ⟨y, hy, rfl⟩ := Option.map_eq_some_iff.1 hz
      obtain ⟨_, b', o', hab', h1⟩ := hp i y hy
      rw [Addr.add_mid] at hab'
      cases hab'
      exact h1
set_option maxRecDepth 100000 in
/-- A slice of coins with their places that came in. -/
theorem spents_in {H : Type} {enc : TypeId × Value → H} {W : World} {base : Nat} {v : Value} {d : DataW H} {p : List MemPlace} (_hok : Value.okWide Tryz.prog W .any base 22 v) (h : DataW.Trod enc Tryz.prog W 0 (fun _ => true) true 22 v d p) :
    ∃ l : List TSp, RwAt 68 W v (l.map spL) ∧ (∀ y ∈ l, SpOk y) ∧ l.length ≤ 9223372036854775807 := by
  obtain ⟨a, len, cap, rfl⟩ := okWide_slice Tryz.underlying22 _hok
  obtain ⟨fuel, hf⟩ := h
  obtain ⟨v', l, hcs, h1, h2, h3⟩ := rows_cells (f := spL) (P := SpOk) (k := 68) (by omega) Tryz.underlying22 (by kernel_rfl) (fun hg => sp_cells hg) (fun y hy => spL_length hy) hf
  have e : v' = .slice a len cap := by
    have : [v'] = (Value.slice a len cap).cells.toList := hcs.symm
    simpa [Value.cells] using this
  rw [e] at h1
  exact ⟨l, h1, h2, h3⟩
/-- What a set is told. -/
structure TDo where
  kind : Int
  n : Int
  p : TPt
  c : TMn
end Go.Proofs.YtckkcpplanfmhaaGreatDoor.Sha

/-
  Arguments of type []int and []uint32 as rows of numbers, with their bounds. No conditions.
-/
namespace Go.Proofs.YtckkcpplanfmhaaGreatDoor.Sha
open Go Go.RowKit
theorem u32s_of_row2 {w : World} {a : Option Addr} {len cap : Nat} {zs : List Int} (h : IsRow .u32 w a len cap zs) : ∃ l : List Nat, RwAt 1 w (.slice a len cap) (l.map u32C) ∧ l.length = len ∧ ∀ x ∈ l, x ≤ 4294967295 := by
  rcases h with ⟨rfl, rfl, rfl, rfl⟩ | ⟨x, rfl, hl, hm, hz, hc, hw⟩
  · exact ⟨[], RwAt.nil 1 w none 0, rfl, fun x hx => by cases hx⟩
  · by_cases h0 : len = 0
    · subst h0
      exact ⟨[], RwAt.nil 1 w _ cap, rfl, fun x hx => by cases hx⟩
    · obtain ⟨b, off, rfl, hcell⟩ := ints_at hc (by omega)
      have hlen : ((zs.take len).map fun z => z.toNat).length = len := by rw [List.length_map, List.length_take]; omega
      refine ⟨(zs.take len).map fun z => z.toNat, ⟨fun m hm => ?_, _, cap, by rw [List.length_map, hlen], by rw [List.length_map, hlen]; exact hl, fun _ => ⟨b, off, rfl, fun i m hi => ?_⟩⟩, hlen, fun x hx => ?_⟩
      · obtain ⟨x, _, rfl⟩ := List.mem_map.1 hm
        rfl
      · rw [List.getElem?_map] at hi
        obtain ⟨y, hy, rfl⟩ := Option.map_eq_some_iff.1 hi
        rw [List.getElem?_map] at hy
        obtain ⟨z, hz1, rfl⟩ := Option.map_eq_some_iff.1 hy
        obtain ⟨hi1, hi2⟩ := List.getElem?_eq_some_iff.1 hz1
        rw [List.length_take] at hi1
        rw [List.getElem_take] at hi2
        have hi3 : i < zs.length := by omega
        have e1 : zs.getD i 0 = z := by simp [List.getD, List.getElem?_eq_getElem hi3, hi2]
        have hb := bounds_u32 (hw z (by rw [← hi2]; exact List.getElem_mem hi3))
        have hci := hcell i hi3
        rw [e1] at hci
        intro j v hv
        rw [Nat.mul_one]
        match j, hv with
        | 0, hv =>
          obtain rfl := Option.some.inj hv
          rw [Nat.add_zero, hci]
          congr 2
          omega
        | j + 1, hv => simp [u32C] at hv
      · obtain ⟨z, hz1, rfl⟩ := List.mem_map.1 hx
        have := bounds_u32 (hw z (List.mem_of_mem_take hz1))
        omega
end Go.Proofs.YtckkcpplanfmhaaGreatDoor.Sha
