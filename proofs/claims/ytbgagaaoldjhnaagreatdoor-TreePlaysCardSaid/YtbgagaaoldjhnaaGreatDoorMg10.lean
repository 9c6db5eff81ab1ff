/-
  Texts of this proof joined into one file: RefTreeAdd, RefTreeNew, CtMath, GMap, OwnMap. What each holds, and under which conditions, its own first sentence tells.
-/
import Derived.Lib.OwnKind
import Derived.Test.YtbgagaaoldjhnaaGreatDoorMg06
import Derived.Test.YtbgagaaoldjhnaaGreatDoorMg09
import Derived.Test.YtbgagaaoldjhnaaGreatDoorMg04
import Derived.Test.YtbgagaaoldjhnaaGreatDoorMg05
/-
  The statements' own tree takes a block: already there, no parent, full, or one node more. Besides the tree's box and its row nothing that was there turns. Conditions: the tree lies where the pointer says, nodes as the model has them, at most 4096, a header as the model has it.
-/
namespace Go.Proofs.YtbgagaaoldjhnaaGreatDoor.Sha
open Go Go.RowKit
theorem ndL_len {x : TNd} (h1 : x.id.length = 32) (h2 : HdOk x.h) : (ndL x).length = 104 := by simp [ndL, h1, hdL_length h2]
theorem fill_mid (place : Nat → Option (Nat × Nat)) (i off : Nat) (v : Value) (vs A old C : List Value) (rest : List (Nat × Value)) (hv : v.cells = vs.toArray) (hp : place i = some (off, vs.length)) (hA : A.length = off) (ho : old.length = vs.length) :
    Instr.fill place (A ++ (old ++ C)).toArray ((i, v) :: rest) = Instr.fill place (A ++ (vs ++ C)).toArray rest := by
  rw [fill_part place i off v vs (A ++ (old ++ C)) rest hv hp (by rw [List.length_append, List.length_append]; omega)]
  congr 2
  rw [List.take_append_of_le_length (by omega), List.take_of_length_le (by omega), List.drop_append, List.drop_eq_nil_of_le (by omega), List.nil_append, hA, Nat.add_sub_cancel_left, ← ho, List.drop_left, List.append_assoc]
theorem built_nd (x : TNd) (h1 : x.id.length = 32) (h2 : HdOk x.h) : Tryz.prog.built 78 [(0, .agg (x.id.map bV).toArray), (1, .agg (hdL x.h).toArray), (2, .int .i64 x.parent), (3, .int .i64 x.height), (4, .int .u64 (x.work : Int)), (5, .bool x.bad)] = some (ndL x).toArray := by
  have hz : ∀ parts, Tryz.prog.built 78 parts = Instr.fill ([(0, 32), (32, 68), (100, 1), (101, 1), (102, 1), (103, 1)].toArray[·]?) (ndL ndZ).toArray parts := fun parts => by kernel_rfl
  have l1 : (x.id.map bV).length = 32 := by simp [h1]
  have l2 : (hdL x.h).length = 68 := hdL_length h2
  obtain ⟨A, B, hA, hB, hz2⟩ : ∃ A B : List Value, A.length = 32 ∧ B.length = 68 ∧ ndL ndZ = [] ++ (A ++ (B ++ [.int .i64 0, .int .i64 0, .int .u64 0, .bool false])) := ⟨ndZ.id.map bV, hdL ndZ.h, rfl, rfl, rfl⟩
  obtain ⟨i, hi⟩ : ∃ i, i = x.id.map bV := ⟨_, rfl⟩
  obtain ⟨j, hj⟩ : ∃ j, j = hdL x.h := ⟨_, rfl⟩
  have hx : ndL x = i ++ (j ++ [.int .i64 x.parent, .int .i64 x.height, .int .u64 (x.work : Int), .bool x.bad]) := by rw [hi, hj]; rfl
  rw [← hi] at l1 ⊢
  rw [← hj] at l2 ⊢
  rw [hx]
  clear hx hi hj
  rw [hz, hz2, fill_mid _ 0 0 (Value.agg i.toArray) i [] A _ _ rfl (by rw [l1]; rfl) rfl (by rw [l1, hA]), List.nil_append,
    fill_mid _ 1 32 (Value.agg j.toArray) j i B _ _ rfl (by rw [l2]; rfl) l1 (by rw [l2, hB])]
  have e2 : i ++ (j ++ [Value.int .i64 0, Value.int .i64 0, Value.int .u64 0, Value.bool false]) = (i ++ j) ++ ([Value.int .i64 0] ++ [Value.int .i64 0, Value.int .u64 0, Value.bool false]) := by simp
  rw [e2, fill_mid _ 2 100 (Value.int .i64 x.parent) [Value.int .i64 x.parent] (i ++ j) [Value.int .i64 0] _ _ rfl rfl (by rw [List.length_append, l1, l2]) rfl]
  have e3 : (i ++ j) ++ ([Value.int .i64 x.parent] ++ [Value.int .i64 0, Value.int .u64 0, Value.bool false]) = (i ++ j ++ [Value.int .i64 x.parent]) ++ ([Value.int .i64 0] ++ [Value.int .u64 0, Value.bool false]) := by simp
  rw [e3, fill_mid _ 3 101 (Value.int .i64 x.height) [Value.int .i64 x.height] (i ++ j ++ [Value.int .i64 x.parent]) [Value.int .i64 0] _ _ rfl rfl (by simp [l1, l2]) rfl]
  have e4 : (i ++ j ++ [Value.int .i64 x.parent]) ++ ([Value.int .i64 x.height] ++ [Value.int .u64 0, Value.bool false]) = (i ++ j ++ [Value.int .i64 x.parent, Value.int .i64 x.height]) ++ ([Value.int .u64 0] ++ [Value.bool false]) := by simp
  rw [e4, fill_mid _ 4 102 (Value.int .u64 (x.work : Int)) [Value.int .u64 (x.work : Int)] (i ++ j ++ [Value.int .i64 x.parent, Value.int .i64 x.height]) [Value.int .u64 0] _ _ rfl rfl (by simp [l1, l2]) rfl]
  have e5 : (i ++ j ++ [Value.int .i64 x.parent, Value.int .i64 x.height]) ++ ([Value.int .u64 (x.work : Int)] ++ [Value.bool false]) = (i ++ j ++ [Value.int .i64 x.parent, Value.int .i64 x.height, Value.int .u64 (x.work : Int)]) ++ ([Value.bool false] ++ []) := by simp
  rw [e5, fill_mid _ 5 103 (Value.bool x.bad) [Value.bool x.bad] (i ++ j ++ [Value.int .i64 x.parent, Value.int .i64 x.height, Value.int .u64 (x.work : Int)]) [Value.bool false] _ _ rfl rfl (by simp [l1, l2]) rfl]
  show some _ = some _
  congr 2
  simp
theorem TreeAt.own {w : World} {base a : Nat} {v : Value} {L : List TNd} (h : TreeAt w base a v L) : v.ownBlock ≠ some a := by
  rcases h.row.1.2 with ⟨rfl, _⟩ | ⟨g, cap, cur, rfl, _, hg, _⟩
  · exact fun e => (by cases e)
  · intro e
    have e' : g = a := Option.some.inj e
    rw [e', h.box] at hg
    cases hg
/-- What is amiss with a block for the tree. -/
def addE (L : List TNd) (h : THd) : Nat := if 0 ≤ findT L (hdId h) then 109 else if findT L h.prev < 0 then 110 else if 4096 ≤ L.length then 121 else 0
/-- Its node. -/
def nxT (L : List TNd) (h : THd) : TNd := ⟨hdId h, h, findT L h.prev, (L.getD (findT L h.prev).toNat ndZ).height + 1, ((L.getD (findT L h.prev).toNat ndZ).work + h.work) % 18446744073709551616, (L.getD (findT L h.prev).toNat ndZ).bad⟩
def AddTP (base a : Nat) (v : Value) (L : List TNd) (h : THd) (w : World) (e : Ending) (wr : World) : Prop :=
  e = .returned (.int .i64 (addE L h : Int)) ∧ (addE L h ≠ 0 → Below w.heap.size w wr) ∧ (addE L h = 0 → ∃ v', TreeAt wr base a v' (L ++ [nxT L h]) ∧ Kps (fun j => j ≠ a ∧ v.ownBlock ≠ some j) w wr)
theorem rw_own_ne {w : World} {base k g : Nat} {T T' : TypeId} {v : Value} {L : List (List Value)} {cs : Array Value} {fr : Nat × Nat} (h : RwOwn k T base w v L) (hg : w.heap[g]? = some (.cells cs T' fr)) (hT : T ≠ T') : v.ownBlock ≠ some g := by
  rcases h.1.2 with ⟨rfl, _⟩ | ⟨q, cap, cur, rfl, _, hq, _⟩
  · exact fun e => (by cases e)
  · intro e
    have e' : q = g := Option.some.inj e
    rw [e', hg] at hq
    injection hq with hq
    injection hq with _ h2 _
    exact hT h2.symm
set_option maxHeartbeats 4000000 in
set_option maxRecDepth 100000 in
theorem rtadd_any (w : World) (base a : Nat) (v : Value) (L : List TNd) (hd : THd) (h : TreeAt w base a v L) (ho : ∀ x ∈ L, NdOk x) (hn : L.length ≤ 4096) (hh : HdOk hd) (hbs : base ≤ w.heap.size) :
    Calls Tryz.prog 10 #[(.pointer (some ⟨a, 0, none⟩)), .agg (hdL hd).toArray] w fun e w' => AddTP base a v L hd w e w' := by
  have BS := Lib.hid hbs
  clear hbs
  obtain ⟨sp, cap, rfl⟩ := h.at.shape
  rw [List.length_map] at h ⊢
  obtain ⟨n, hnl⟩ : ∃ n, n = L.length := ⟨_, rfl⟩
  rw [← hnl] at h hn ⊢
  obtain ⟨i0, hi, hz0, hz1, hz2⟩ := info_parts info_node
  have N := Lib.hid hnl
  have HT := Lib.hid h
  have OK := Lib.hid ho
  have HH := Lib.hid hh
  have RI := Lib.hid (rheadid_any hd hh)
  have FD : Hid (∀ (W : World) (id : List UInt8), TreeAt W base a (.slice sp n cap) L → id.length = 32 → Calls Tryz.prog 35 #[(.pointer (some ⟨a, 0, none⟩)), .agg (id.map bV).toArray] W fun e w' => e = .returned (.int .i64 (findT L id)) ∧ Below W.heap.size W w') := fun W id q hid => rfind_any W base a _ L id q ho hid (by rw [← hnl]; exact hn)
  have LC : Hid ((hdL hd).length = 68) := hdL_length hh
  have CW : Hid (∀ (W : World) (g : Nat), W.heap[g]? = some (.cells (hdL hd).toArray 27 (0, 0)) → W.cell? ⟨g, 66, none⟩ = some (.int .u32 (hd.work : Int))) := fun W g q => ((HdBox.mk q).cells hh).2.2.1
  have CP : Hid (∀ (W : World) (g : Nat), W.heap[g]? = some (.cells (hdL hd).toArray 27 (0, 0)) → W.rangeAt g 1 (hd.prev.map bV)) := fun W g q => (HdBox.mk q).prev
  obtain ⟨id, hid⟩ : ∃ id, id = hdId hd := ⟨_, rfl⟩
  have IE := Lib.hid hid
  have LI : Hid (id.length = 32) := by show _ = _; rw [hid]; exact hdId_length hd
  rw [← hid] at RI
  obtain ⟨ci, hci⟩ : ∃ ci, ci = id.map bV := ⟨_, rfl⟩
  have CIE := Lib.hid hci
  rw [← hci] at RI
  have LCI : Hid (ci.length = 32) := by show _ = _; rw [hci, List.length_map]; exact LI.out
  have SCI : Hid (ci.toArray.size = 32) := by show _ = _; rw [List.size_toArray]; exact LCI.out
  have OCI : Hid (ci.toArray.all (·.oneCell') = true) := by show _ = _; rw [hci]; exact all_oneCell_toArray (bV_one' _)
  obtain ⟨cs, hcs⟩ : ∃ cs, cs = hdL hd := ⟨_, rfl⟩
  have CSE := Lib.hid hcs
  rw [← hcs] at LC CW CP RI ⊢
  obtain ⟨cp, hcp⟩ : ∃ cp, cp = hd.prev.map bV := ⟨_, rfl⟩
  have CPE := Lib.hid hcp
  rw [← hcp] at CP
  have LP : Hid (hd.prev.length = 32) := hh.2.1
  have LCP : Hid (cp.length = 32) := by show _ = _; rw [hcp, List.length_map]; exact LP.out
  have FI : Hid (∀ W, TreeAt W base a (.slice sp n cap) L → Calls Tryz.prog 35 #[(.pointer (some ⟨a, 0, none⟩)), .agg ci.toArray] W fun e w' => e = .returned (.int .i64 (findT L id)) ∧ Below W.heap.size W w') := fun W q => by rw [hci]; exact FD.out W id q LI.out
  have FP : Hid (∀ W, TreeAt W base a (.slice sp n cap) L → Calls Tryz.prog 35 #[(.pointer (some ⟨a, 0, none⟩)), .agg cp.toArray] W fun e w' => e = .returned (.int .i64 (findT L hd.prev)) ∧ Below W.heap.size W w') := fun W q => by rw [hcp]; exact FD.out W hd.prev q LP.out
  clear hnl h ho hh hid hci hcs hcp FD
  go_enter Tryz.func10, Tryz.ntmps10
  go_upto_region 1 with fail
  have f1 := heap_alloc_new w (.cells cs.toArray 27 (0, 0))
  have bb := (Below.refl w.heap.size w).alloc (Nat.le_refl _) (.cells cs.toArray 27 (0, 0))
  generalize hw1 : World.alloc _ _ = w1
  have e1 : w.alloc (.cells cs.toArray 27 (0, 0)) = w1 := hw1
  rw [e1] at f1 bb
  obtain ⟨g1, hg1⟩ : ∃ g1, g1 = w.heap.size := ⟨_, rfl⟩
  rw [← hg1] at f1 ⊢
  have F1 := Lib.hid f1
  have B1 := Lib.hid bb
  have HT := Lib.hid (HT.out.below bb)
  clear f1 bb hw1 e1 hg1
  go_wp2_with ((with_reducible show wpList _ _ _ _ _ _); refine wpList_load_row rfl 27 (.tmp 3) rfl g1 rfl 27 cs.toArray (0, 0) _ F1.out Tryz.underlying27 rfl (by show _ = some cs.length; rw [LC.out] <;> kernel_rfl) ?_; go_frame)
  refine (RI.out _).mono ?_
  rintro e w2 ⟨rfl, bb⟩
  have F1 := Lib.hid (row_below F1.out bb)
  have HT := Lib.hid (HT.out.below bb)
  have B1 := Lib.hid (B1.out.trans (bb.mono B1.out.size))
  clear bb RI
  go_upto_region 2 with ((with_reducible show wpList _ _ _ _ _ _); (refine wpList_store_row rfl 25 (.tmp 5) (.tmp 8) rfl w2.heap.size ci.toArray rfl rfl 25 _ (heap_alloc_new _ _) (by rw [SCI.out]; kernel_rfl) (by rw [SCI.out]; rfl) OCI.out ?_; go_frame))
  obtain ⟨_, f2, f3, f4⟩ := fill_setup (Below.refl w2.heap.size w2) (List.replicate 32 (bV 0)).toArray ci.toArray 25
  generalize hqw3 : World.setRow _ _ _ = w3
  have ew3 : World.setRow (w2.alloc (.cells (List.replicate 32 (bV 0)).toArray 25)) w2.heap.size ci.toArray = w3 := hqw3
  rw [ew3] at f2 f3 f4
  obtain ⟨g5, hg5⟩ : ∃ g5, g5 = w2.heap.size := ⟨_, rfl⟩
  rw [← hg5] at f2 ⊢
  have F5 := Lib.hid f2
  have Ng5 : Hid (w2.heap.size ≤ g5) := by show _ ≤ _; rw [hg5]; exact Nat.le_refl _
  have F1 := Lib.hid (row_below F1.out f4)
  have HT := Lib.hid (HT.out.below f4)
  have B1 := Lib.hid (B1.out.trans (f4.mono B1.out.size))
  clear f2 f3 f4 hqw3 ew3 hg5
  go_wp2_with ((with_reducible show wpList _ _ _ _ _ _); refine wpList_load_row rfl 25 (.tmp 5) rfl g5 rfl 25 ci.toArray (0, 0) _ F5.out Tryz.underlying25 rfl (by show _ = some ci.length; rw [LCI.out] <;> kernel_rfl) ?_; go_frame)
  refine (FI.out _ HT.out).mono ?_
  rintro e w4 ⟨rfl, bb⟩
  have F1 := Lib.hid (row_below F1.out bb)
  have F5 := Lib.hid (row_below F5.out bb)
  have HT := Lib.hid (HT.out.below bb)
  have B1 := Lib.hid (B1.out.trans (bb.mono B1.out.size))
  clear bb
  by_cases h109 : 0 ≤ findT L id
  · have AE : Hid (addE L hd = 109) := by show _ = _; unfold addE; rw [← IE.out, if_pos h109]
    go_wp2_with fail
    go_ret
    exact ⟨by rw [AE.out]; rfl, fun _ => B1.out, fun e => absurd e (by rw [AE.out]; decide)⟩
  have A109 : Hid (¬ 0 ≤ findT L id) := h109
  have R1 := Lib.hid (CP.out _ _ F1.out)
  go_wp2_with ((with_reducible show wpList _ _ _ _ _ _); refine wpList_load_mid rfl 25 (.tmp 14) rfl g1 1 rfl cp _ R1.out Tryz.underlying25 rfl (by rw [LCP.out]; kernel_rfl) ?_; go_frame)
  refine (FP.out _ HT.out).mono ?_
  rintro e w5 ⟨rfl, bb⟩
  have F1 := Lib.hid (row_below F1.out bb)
  have F5 := Lib.hid (row_below F5.out bb)
  have HT := Lib.hid (HT.out.below bb)
  have B1 := Lib.hid (B1.out.trans (bb.mono B1.out.size))
  clear bb R1 h109
  rcases findT_cases L hd.prev with ⟨hf, _⟩ | ⟨k, x, hf, hx, _, _⟩
  · have AE : Hid (addE L hd = 110) := by show _ = _; unfold addE; rw [← IE.out, if_neg (Int.not_le.2 A109.out), hf, if_pos (by decide)]
    rw [hf]
    go_wp2_with fail
    go_ret
    exact ⟨by rw [AE.out]; rfl, fun _ => B1.out, fun e => absurd e (by rw [AE.out]; decide)⟩
  have FE := Lib.hid hf
  have XK := Lib.hid hx
  have TC := HT.out.cell
  have hkn : k < n := by rw [N.out]; exact (List.getElem?_eq_some_iff.1 hx).1
  rw [hf]
  by_cases hfull : 4096 ≤ n
  · have AE : Hid (addE L hd = 121) := by show _ = _; unfold addE; rw [← IE.out, if_neg (Int.not_le.2 A109.out), FE.out, if_neg (by omega), if_pos (by rw [← N.out]; exact hfull)]
    clear hf hx
    have q1 : (4096 : Int) ≤ (n : Int) := by omega
    go_wp2_with fail
    go_ret
    exact ⟨by rw [AE.out]; rfl, fun _ => B1.out, fun e => absurd e (by rw [AE.out]; decide)⟩
  have AE : Hid (addE L hd = 0) := by show _ = _; unfold addE; rw [← IE.out, if_neg (Int.not_le.2 A109.out), FE.out, if_neg (by omega), if_neg (by rw [← N.out]; exact hfull)]
  have ox := OK.out x (List.mem_of_getElem? hx)
  have q1 : (n : Int) < 4096 := by omega
  obtain ⟨b, o, rfl, hg⟩ := HT.out.get (by omega)
  have PN := Lib.hid (fun (W : World) (q : W.rangeAt b (o + k * 104) (ndL x)) => nd_nums ox q)
  have RX := Lib.hid (hg k x hx)
  have XH : Hid (0 ≤ x.height ∧ x.height ≤ 4096) := ⟨ox.2.2.2.2.1, ox.2.2.2.2.2.1⟩
  have XW : Hid (x.work ≤ 18446744073709551615) := ox.2.2.2.2.2.2
  have NXE : Hid (nxT L hd = ⟨id, hd, (k : Int), x.height + 1, (x.work + hd.work) % 18446744073709551616, x.bad⟩) := by
    show _ = _
    unfold nxT
    rw [FE.out, ← IE.out, Int.toNat_natCast, List.getD_eq_getElem?_getD, XK.out]
    rfl
  obtain ⟨cx, hcx⟩ : ∃ cx, cx = ndL (nxT L hd) := ⟨_, rfl⟩
  have CXE := Lib.hid hcx
  have LX : Hid (cx.length = 104) := by show _ = _; rw [hcx]; exact ndL_len (by rw [NXE.out]; exact LI.out) (by rw [NXE.out]; exact HH.out)
  have OX : Hid (∀ u ∈ cx, u.oneCell' = true) := by rw [hcx]; exact ndL_one _
  have BT : Hid (Tryz.prog.built 78 [(0, .agg ci.toArray), (1, .agg cs.toArray), (2, .int .i64 (k : Int)), (3, .int .i64 (x.height + 1)), (4, .int .u64 (((x.work + hd.work) % 18446744073709551616 : Nat) : Int)), (5, .bool x.bad)] = some cx.toArray) := by
    show _ = _
    have h := built_nd (nxT L hd) (by rw [NXE.out]; exact LI.out) (by rw [NXE.out]; exact HH.out)
    rw [NXE.out] at h
    rw [hcx, NXE.out, CIE.out, CSE.out]
    exact h
  obtain ⟨wk, hwk⟩ : ∃ wk, wk = (x.work + hd.work) % 18446744073709551616 := ⟨_, rfl⟩
  rw [← hwk] at BT
  have WKE := Lib.hid hwk
  have HW : Hid (hd.work ≤ 4294967295) := HH.out.2.2.2.2.1
  have KN := Lib.hid hkn
  have QN := Lib.hid q1
  clear hf hx hg ox hcx hwk
  have TCh := Lib.hid TC
  have q2 : (k : Int) < (n : Int) := by omega
  clear hkn
  go_upto_region 9 with fail
  refine wp_region_end (fun w' => Below w5.heap.size w5 w') [39] (by kernel_rfl) (Below.drew (Below.refl _ _)) (fun hHeld => ?_)
  generalize hwd : w5.drew = wd at  hHeld ⊢
  clear hwd
  refine end_pure (i := 0) (v := (.pointer (some ⟨a, 0, none⟩))) rfl (by kernel_rfl) (by kernel_rfl) (by kernel_rfl) (by kernel_rfl) (fun _ _ _ h => h) (Or.inl ⟨by rfl, fun w' _ => by kernel_rfl⟩) (fun _ => hHeld) ?_
  go_frame
  refine end_take (i := 1) (v := (.pointer (some ⟨a, 0, none⟩))) rfl (by kernel_rfl) (by kernel_rfl) (by kernel_rfl) (by kernel_rfl) (fun _ _ _ h => h) (Or.inl ⟨by rfl, fun w' _ => by kernel_rfl⟩) hHeld ?_
  go_frame
  refine end_take (i := 2) (v := (.pointer (some ⟨a, 0, none⟩))) rfl (by kernel_rfl) (by kernel_rfl) (by kernel_rfl) (by kernel_rfl) (fun _ _ _ h => h) (Or.inl ⟨by rfl, fun w' _ => by kernel_rfl⟩) hHeld ?_
  go_frame
  refine end_take (i := 3) (v := (.pointer (some ⟨a, 0, none⟩))) rfl (by kernel_rfl) (by kernel_rfl) (by kernel_rfl) (by kernel_rfl) (fun _ _ _ h => h) (Or.inl ⟨by rfl, fun w' _ => by kernel_rfl⟩) hHeld ?_
  go_frame
  refine end_take (i := 4) (v := (.slice (some ⟨b, o, none⟩) n cap)) rfl (by kernel_rfl) (by kernel_rfl) (by kernel_rfl) (by kernel_rfl) (fun _ _ _ h => h) (yieldsIf_load_one (by rfl) 79 (.tmp 28) rfl a (0) rfl _ _ (fun w' hw' => cell_below TCh.out hw') Tryz.underlying79 rfl) hHeld ?_
  go_frame
  refine end_take (i := 5) (v := (.agg ci.toArray)) rfl (by kernel_rfl) (by kernel_rfl) (by kernel_rfl) (by kernel_rfl) (fun _ _ _ h => h) (yieldsIf_load_row (by rfl) 25 (.tmp 5) rfl g5 rfl 25 ci.toArray (0, 0) _ (fun w' hw' => row_below F5.out hw') Tryz.underlying25 rfl (by show _ = some ci.length; rw [LCI.out]; kernel_rfl)) hHeld ?_
  go_frame
  refine end_take (i := 6) (v := (.agg cs.toArray)) rfl (by kernel_rfl) (by kernel_rfl) (by kernel_rfl) (by kernel_rfl) (fun _ _ _ h => h) (yieldsIf_load_row (by rfl) 27 (.tmp 3) rfl g1 rfl 27 cs.toArray (0, 0) _ (fun w' hw' => row_below F1.out hw') Tryz.underlying27 rfl (by show _ = some cs.length; rw [LC.out]; kernel_rfl)) hHeld ?_
  go_frame
  refine end_take (i := 7) (v := (.int .i64 (k : Int))) rfl (by kernel_rfl) (by kernel_rfl) (by kernel_rfl) (by kernel_rfl) (fun _ _ _ h => h) (Or.inl ⟨by rfl, fun w' _ => by kernel_rfl⟩) hHeld ?_
  go_frame
  refine end_take (i := 8) (v := (.pointer (some ⟨a, 0, none⟩))) rfl (by kernel_rfl) (by kernel_rfl) (by kernel_rfl) (by kernel_rfl) (fun _ _ _ h => h) (Or.inl ⟨by rfl, fun w' _ => by kernel_rfl⟩) hHeld ?_
  go_frame
  refine end_take (i := 9) (v := (.pointer (some ⟨a, 0, none⟩))) rfl (by kernel_rfl) (by kernel_rfl) (by kernel_rfl) (by kernel_rfl) (fun _ _ _ h => h) (Or.inl ⟨by rfl, fun w' _ => by kernel_rfl⟩) hHeld ?_
  go_frame
  refine end_take (i := 10) (v := (.pointer (some ⟨a, 0, none⟩))) rfl (by kernel_rfl) (by kernel_rfl) (by kernel_rfl) (by kernel_rfl) (fun _ _ _ h => h) (Or.inl ⟨by rfl, fun w' _ => by kernel_rfl⟩) hHeld ?_
  go_frame
  refine end_take (i := 11) (v := (.slice (some ⟨b, o, none⟩) n cap)) rfl (by kernel_rfl) (by kernel_rfl) (by kernel_rfl) (by kernel_rfl) (fun _ _ _ h => h) (yieldsIf_load_one (by rfl) 79 (.tmp 35) rfl a (0) rfl _ _ (fun w' hw' => cell_below TCh.out hw') Tryz.underlying79 rfl) hHeld ?_
  go_frame
  refine end_take (i := 12) (v := (.int .i64 (k : Int))) rfl (by kernel_rfl) (by kernel_rfl) (by kernel_rfl) (by kernel_rfl) (fun _ _ _ h => h) (Or.inl ⟨by rfl, fun w' _ => by kernel_rfl⟩) hHeld ?_
  go_frame
  refine end_take (i := 13) (v := (.pointer (some ⟨b, o + k * 104, none⟩))) rfl (by kernel_rfl) (by kernel_rfl) (by kernel_rfl) (by kernel_rfl) (fun _ _ _ h => h) (Or.inl ⟨by rfl, fun w' _ => by go_simp⟩) hHeld ?_
  go_frame
  refine end_take (i := 14) (v := (.pointer (some ⟨b, o + k * 104 + 101, none⟩))) rfl (by kernel_rfl) (by kernel_rfl) (by kernel_rfl) (by kernel_rfl) (fun _ _ _ h => h) (Or.inl ⟨by rfl, fun w' _ => by kernel_rfl⟩) hHeld ?_
  go_frame
  refine end_take (i := 15) (v := (.int .i64 x.height)) rfl (by kernel_rfl) (by kernel_rfl) (by kernel_rfl) (by kernel_rfl) (fun _ _ _ h => h) (yieldsIf_load_one (by rfl) 3 (.tmp 39) rfl b (o + k * 104 + 101) rfl _ _ (fun w' hw' => (PN.out _ (range_below RX.out hw')).2.1) Tryz.underlying3 rfl) hHeld ?_
  go_frame
  refine end_take (i := 16) (v := (.int .i64 (x.height + 1))) rfl (by kernel_rfl) (by kernel_rfl) (by kernel_rfl) (by kernel_rfl) (fun _ _ _ h => h) (Or.inl ⟨by rfl, fun w' _ => by go_simp; have := XH.out; rw [IntKind.wrap_i64]; omega⟩) hHeld ?_
  go_frame
  refine end_take (i := 17) (v := (.pointer (some ⟨a, 0, none⟩))) rfl (by kernel_rfl) (by kernel_rfl) (by kernel_rfl) (by kernel_rfl) (fun _ _ _ h => h) (Or.inl ⟨by rfl, fun w' _ => by kernel_rfl⟩) hHeld ?_
  go_frame
  refine end_take (i := 18) (v := (.pointer (some ⟨a, 0, none⟩))) rfl (by kernel_rfl) (by kernel_rfl) (by kernel_rfl) (by kernel_rfl) (fun _ _ _ h => h) (Or.inl ⟨by rfl, fun w' _ => by kernel_rfl⟩) hHeld ?_
  go_frame
  refine end_take (i := 19) (v := (.pointer (some ⟨a, 0, none⟩))) rfl (by kernel_rfl) (by kernel_rfl) (by kernel_rfl) (by kernel_rfl) (fun _ _ _ h => h) (Or.inl ⟨by rfl, fun w' _ => by kernel_rfl⟩) hHeld ?_
  go_frame
  refine end_take (i := 20) (v := (.slice (some ⟨b, o, none⟩) n cap)) rfl (by kernel_rfl) (by kernel_rfl) (by kernel_rfl) (by kernel_rfl) (fun _ _ _ h => h) (yieldsIf_load_one (by rfl) 79 (.tmp 44) rfl a (0) rfl _ _ (fun w' hw' => cell_below TCh.out hw') Tryz.underlying79 rfl) hHeld ?_
  go_frame
  refine end_take (i := 21) (v := (.int .i64 (k : Int))) rfl (by kernel_rfl) (by kernel_rfl) (by kernel_rfl) (by kernel_rfl) (fun _ _ _ h => h) (Or.inl ⟨by rfl, fun w' _ => by kernel_rfl⟩) hHeld ?_
  go_frame
  refine end_take (i := 22) (v := (.pointer (some ⟨b, o + k * 104, none⟩))) rfl (by kernel_rfl) (by kernel_rfl) (by kernel_rfl) (by kernel_rfl) (fun _ _ _ h => h) (Or.inl ⟨by rfl, fun w' _ => by go_simp⟩) hHeld ?_
  go_frame
  refine end_take (i := 23) (v := (.pointer (some ⟨b, o + k * 104 + 102, none⟩))) rfl (by kernel_rfl) (by kernel_rfl) (by kernel_rfl) (by kernel_rfl) (fun _ _ _ h => h) (Or.inl ⟨by rfl, fun w' _ => by kernel_rfl⟩) hHeld ?_
  go_frame
  refine end_take (i := 24) (v := (.int .u64 (x.work : Int))) rfl (by kernel_rfl) (by kernel_rfl) (by kernel_rfl) (by kernel_rfl) (fun _ _ _ h => h) (yieldsIf_load_one (by rfl) 45 (.tmp 48) rfl b (o + k * 104 + 102) rfl _ _ (fun w' hw' => (PN.out _ (range_below RX.out hw')).2.2.1) Tryz.underlying45 rfl) hHeld ?_
  go_frame
  refine end_take (i := 25) (v := (.pointer (some ⟨g1, 66, none⟩))) rfl (by kernel_rfl) (by kernel_rfl) (by kernel_rfl) (by kernel_rfl) (fun _ _ _ h => h) (Or.inl ⟨by rfl, fun w' _ => by kernel_rfl⟩) hHeld ?_
  go_frame
  refine end_take (i := 26) (v := (.int .u32 (hd.work : Int))) rfl (by kernel_rfl) (by kernel_rfl) (by kernel_rfl) (by kernel_rfl) (fun _ _ _ h => h) (yieldsIf_load_one (by rfl) 23 (.tmp 50) rfl g1 (66) rfl _ _ (fun w' hw' => CW.out _ _ (row_below F1.out hw')) Tryz.underlying23 rfl) hHeld ?_
  go_frame
  refine end_take (i := 27) (v := (.int .u64 (hd.work : Int))) rfl (by kernel_rfl) (by kernel_rfl) (by kernel_rfl) (by kernel_rfl) (fun _ _ _ h => h) (Or.inl ⟨by rfl, fun w' _ => by go_simp; have := HW.out; rw [IntKind.wrap_u64]; omega⟩) hHeld ?_
  go_frame
  refine end_take (i := 28) (v := (.int .u64 (wk : Int))) rfl (by kernel_rfl) (by kernel_rfl) (by kernel_rfl) (by kernel_rfl) (fun _ _ _ h => h) (Or.inl ⟨by rfl, fun w' _ => by go_simp; rw [WKE.out, IntKind.wrap_u64]; omega⟩) hHeld ?_
  go_frame
  refine end_take (i := 29) (v := (.pointer (some ⟨a, 0, none⟩))) rfl (by kernel_rfl) (by kernel_rfl) (by kernel_rfl) (by kernel_rfl) (fun _ _ _ h => h) (Or.inl ⟨by rfl, fun w' _ => by kernel_rfl⟩) hHeld ?_
  go_frame
  refine end_take (i := 30) (v := (.pointer (some ⟨a, 0, none⟩))) rfl (by kernel_rfl) (by kernel_rfl) (by kernel_rfl) (by kernel_rfl) (fun _ _ _ h => h) (Or.inl ⟨by rfl, fun w' _ => by kernel_rfl⟩) hHeld ?_
  go_frame
  refine end_take (i := 31) (v := (.pointer (some ⟨a, 0, none⟩))) rfl (by kernel_rfl) (by kernel_rfl) (by kernel_rfl) (by kernel_rfl) (fun _ _ _ h => h) (Or.inl ⟨by rfl, fun w' _ => by kernel_rfl⟩) hHeld ?_
  go_frame
  refine end_take (i := 32) (v := (.slice (some ⟨b, o, none⟩) n cap)) rfl (by kernel_rfl) (by kernel_rfl) (by kernel_rfl) (by kernel_rfl) (fun _ _ _ h => h) (yieldsIf_load_one (by rfl) 79 (.tmp 56) rfl a (0) rfl _ _ (fun w' hw' => cell_below TCh.out hw') Tryz.underlying79 rfl) hHeld ?_
  go_frame
  refine end_take (i := 33) (v := (.int .i64 (k : Int))) rfl (by kernel_rfl) (by kernel_rfl) (by kernel_rfl) (by kernel_rfl) (fun _ _ _ h => h) (Or.inl ⟨by rfl, fun w' _ => by kernel_rfl⟩) hHeld ?_
  go_frame
  refine end_take (i := 34) (v := (.pointer (some ⟨b, o + k * 104, none⟩))) rfl (by kernel_rfl) (by kernel_rfl) (by kernel_rfl) (by kernel_rfl) (fun _ _ _ h => h) (Or.inl ⟨by rfl, fun w' _ => by go_simp⟩) hHeld ?_
  go_frame
  refine end_take (i := 35) (v := (.pointer (some ⟨b, o + k * 104 + 103, none⟩))) rfl (by kernel_rfl) (by kernel_rfl) (by kernel_rfl) (by kernel_rfl) (fun _ _ _ h => h) (Or.inl ⟨by rfl, fun w' _ => by kernel_rfl⟩) hHeld ?_
  go_frame
  refine end_take (i := 36) (v := (.bool x.bad)) rfl (by kernel_rfl) (by kernel_rfl) (by kernel_rfl) (by kernel_rfl) (fun _ _ _ h => h) (yieldsIf_load_one (by rfl) 4 (.tmp 60) rfl b (o + k * 104 + 103) rfl _ _ (fun w' hw' => (PN.out _ (range_below RX.out hw')).2.2.2) Tryz.underlying4 rfl) hHeld ?_
  go_frame
  refine end_take (i := 37) (v := (.agg cx.toArray)) rfl (by kernel_rfl) (by kernel_rfl) (by kernel_rfl) (by kernel_rfl) (fun _ _ _ h => h) (yieldsIf_build (by rfl) 78 _ rfl [(0, .agg ci.toArray), (1, .agg cs.toArray), (2, .int .i64 (k : Int)), (3, .int .i64 (x.height + 1)), (4, .int .u64 (wk : Int)), (5, .bool x.bad)] (by kernel_rfl) _ BT.out) hHeld ?_
  go_frame
  refine end_next (i := 38) (by kernel_rfl) rfl (fun K hK => ?_)
  rw [if_pos (by rfl)]
  refine wp_slice_one 79 78 (.tmp 62) rfl cx rfl Tryz.underlying79 i0 _ hi hz0 (by rw [hz1, LX.out]) (by rw [LX.out]; omega) (by rw [LX.out]; omega) ?_
  have nf := heap_alloc_new wd (.cells cx.toArray 78 (0, 0))
  have bb := (Below.refl wd.heap.size wd).alloc (Nat.le_refl _) (.cells cx.toArray 78 (0, 0))
  obtain ⟨gv1, hgv1⟩ : ∃ g, g = wd.heap.size := ⟨_, rfl⟩
  generalize hqv1 : World.alloc _ _ = v1
  have ev1 : wd.alloc (.cells cx.toArray 78 (0, 0)) = v1 := hqv1
  rw [ev1] at nf bb
  rw [← hgv1] at nf ⊢
  have NF := Lib.hid nf
  have hv1 := hHeld.trans (bb.mono hHeld.size)
  clear nf bb hqv1 ev1 hgv1 hHeld
  go_frame
  refine hK.out _ _ hv1 (fun hHeld => ?_)
  clear hK K hv1
  refine end_last (i := 39) (by kernel_rfl) (by kernel_rfl) rfl (fun K hK => ?_)
  rw [if_pos (by rfl)]
  have HTa := Lib.hid (HT.out.below hHeld)
  refine wp_append_row v1 (.tmp 29) (.tmp 63) 79 rfl base 78 i0 (.agg (ndL ndZ).toArray) 104 144 Tryz.underlying79 hi hz0 hz1 hz2 (by kernel_rfl) (by decide) (.slice (some ⟨b, o, none⟩) n cap) n (L.map ndL).flatten rfl (by have h := HTa.out.row.1; rwa [List.length_map, ← N.out] at h) ⟨gv1, 0, none⟩ 1 1 cx rfl (by rw [LX.out]) (fun j u hj => by rw [Addr.add_mid]; exact range_of_box NF.out j u hj) OX.out (by have := QN.out; unfold maxLen; omega) (by have := QN.out; omega) (Nat.le_trans BS.out (Nat.le_trans B1.out.size hHeld.size)) ?_
  intro xv2 v2 q1 q2 q3
  have VO := Lib.hid (own_one q1)
  have NEW : Hid (RwOwn 104 78 base v2 xv2 (L.map ndL ++ [cx])) := RwOwn.push HTa.out.row.2 LX.out (by rw [List.length_map, ← N.out]; exact q1)
  have BOX := Lib.hid (row_far HTa.out.box q2 HTa.out.own)
  have KP := Lib.hid ((Kps.new (F := fun j => j ≠ a ∧ (Value.slice (some ⟨b, o, none⟩) n cap).ownBlock ≠ some j) (B1.out.trans (hHeld.mono B1.out.size))).trans (Kps.grown q2 fun j _ hj e => hj.2 e.symm))
  clear q1 q2 q3 hHeld HTa NF
  go_frame
  refine hK.out _ _ ?_
  clear hK K
  refine end_late (i := 40) (v := (.pointer (some ⟨a, 0, none⟩))) rfl (by kernel_rfl) (by kernel_rfl) (by kernel_rfl) (by kernel_rfl) (by kernel_rfl) (fun _ _ _ h => h) (Or.inl ⟨by rfl, fun w' _ => by kernel_rfl⟩) ?_
  go_frame
  refine end_late (i := 41) (v := (.pointer (some ⟨a, 0, none⟩))) rfl (by kernel_rfl) (by kernel_rfl) (by kernel_rfl) (by kernel_rfl) (by kernel_rfl) (fun _ _ _ h => h) (Or.inl ⟨by rfl, fun w' _ => by kernel_rfl⟩) ?_
  go_frame
  refine end_last (i := 42) (by kernel_rfl) (by kernel_rfl) rfl (fun K hK => ?_)
  rw [if_pos (by rfl)]
  refine wp_store_part 79 (.tmp 66) (.tmp 64) rfl a 0 [] [(.slice (some ⟨b, o, none⟩) n cap)] [] [xv2] 81 xv2 rfl rfl (cells_one VO.out) rfl rfl BOX.out (by kernel_rfl) (one_mem VO.out) ?_
  intro v3 q1 q2
  have TA : Hid (TreeAt v3 base a xv2 (L ++ [nxT L hd])) := ⟨q1, by rw [List.map_append, List.map_singleton, ← CXE.out]; exact NEW.out.kept q2 (.inr (rw_own_ne NEW.out BOX.out (by decide)))⟩
  have KP := Lib.hid (KP.out.trans (Kps.grown q2 fun j _ hj e => hj.1 (Option.some.inj e)))
  clear q1 q2 BOX NEW
  go_frame
  refine hK.out _ _ ?_
  clear hK K
  refine end_done (by kernel_rfl) ?_ _
  go_wp2_with fail
  go_ret
  exact ⟨by rw [AE.out]; rfl, fun e => absurd AE.out e, fun _ => ⟨_, TA.out, KP.out⟩⟩
end Go.Proofs.YtbgagaaoldjhnaaGreatDoor.Sha

/-
  The statements' own tree of one block: new memory; nothing that was there turns. Condition: a header as the model has it.
-/
namespace Go.Proofs.YtbgagaaoldjhnaaGreatDoor.Sha
open Go Go.RowKit
theorem rw_of_row {w : World} {base g k : Nat} {T : TypeId} {cs : List Value} (h : w.heap[g]? = some (.cells cs.toArray T (0, 0))) (hb : base ≤ g) (hl : cs.length = k) : RwOwn k T base w (.slice (some ⟨g, 0, none⟩) 1 1) [cs] := by
  refine ⟨⟨by simp [hl], .inr ⟨g, 1, cs.toArray, rfl, hb, h, Nat.le_refl _, by decide, by simp [hl], ?_⟩⟩, fun x hx => ?_⟩
  · simp [hl, List.take_of_length_le]
  · rw [List.mem_singleton.1 hx]
    exact hl
theorem built_nd0 (x : TNd) (h1 : x.id.length = 32) (h2 : HdOk x.h) (h3 : x.height = 0) (h4 : x.bad = false) : Tryz.prog.built 78 [(0, .agg (x.id.map bV).toArray), (1, .agg (hdL x.h).toArray), (2, .int .i64 x.parent), (4, .int .u64 (x.work : Int))] = some (ndL x).toArray := by
  have hz : ∀ parts, Tryz.prog.built 78 parts = Instr.fill ([(0, 32), (32, 68), (100, 1), (101, 1), (102, 1), (103, 1)].toArray[·]?) (ndL ndZ).toArray parts := fun parts => by kernel_rfl
  have l1 : (x.id.map bV).length = 32 := by simp [h1]
  have l2 : (hdL x.h).length = 68 := hdL_length h2
  obtain ⟨A, B, hA, hB, hz2⟩ : ∃ A B : List Value, A.length = 32 ∧ B.length = 68 ∧ ndL ndZ = [] ++ (A ++ (B ++ [.int .i64 0, .int .i64 0, .int .u64 0, .bool false])) := ⟨ndZ.id.map bV, hdL ndZ.h, rfl, rfl, rfl⟩
  obtain ⟨i, hi⟩ : ∃ i, i = x.id.map bV := ⟨_, rfl⟩
  obtain ⟨j, hj⟩ : ∃ j, j = hdL x.h := ⟨_, rfl⟩
  have hx : ndL x = i ++ (j ++ [.int .i64 x.parent, .int .i64 0, .int .u64 (x.work : Int), .bool false]) := by rw [hi, hj, ← h3, ← h4]; rfl
  rw [← hi] at l1 ⊢
  rw [← hj] at l2 ⊢
  rw [hx]
  clear hx hi hj
  rw [hz, hz2, fill_mid _ 0 0 (Value.agg i.toArray) i [] A _ _ rfl (by rw [l1]; rfl) rfl (by rw [l1, hA]), List.nil_append,
    fill_mid _ 1 32 (Value.agg j.toArray) j i B _ _ rfl (by rw [l2]; rfl) l1 (by rw [l2, hB])]
  have e2 : i ++ (j ++ [Value.int .i64 0, Value.int .i64 0, Value.int .u64 0, Value.bool false]) = (i ++ j) ++ ([Value.int .i64 0] ++ [Value.int .i64 0, Value.int .u64 0, Value.bool false]) := by simp
  rw [e2, fill_mid _ 2 100 (Value.int .i64 x.parent) [Value.int .i64 x.parent] (i ++ j) [Value.int .i64 0] _ _ rfl rfl (by rw [List.length_append, l1, l2]) rfl]
  have e4 : (i ++ j) ++ ([Value.int .i64 x.parent] ++ [Value.int .i64 0, Value.int .u64 0, Value.bool false]) = (i ++ j ++ [Value.int .i64 x.parent, Value.int .i64 0]) ++ ([Value.int .u64 0] ++ [Value.bool false]) := by simp
  rw [e4, fill_mid _ 4 102 (Value.int .u64 (x.work : Int)) [Value.int .u64 (x.work : Int)] (i ++ j ++ [Value.int .i64 x.parent, Value.int .i64 0]) [Value.int .u64 0] _ _ rfl rfl (by simp [l1, l2]) rfl]
  show some _ = some _
  congr 2
  simp
/-- The start. -/
def stT (h : THd) : TNd := ⟨hdId h, h, -1, 0, h.work, false⟩
set_option maxHeartbeats 2000000 in
set_option maxRecDepth 100000 in
theorem rtnew_any (w : World) (hd : THd) (hh : HdOk hd) :
    Calls Tryz.prog 7 #[.agg (hdL hd).toArray] w fun e w' => ∃ a v, e = .returned (.pointer (some ⟨a, 0, none⟩)) ∧ TreeAt w' w.heap.size a v [stT hd] ∧ w.heap.size ≤ a ∧ Below w.heap.size w w' := by
  obtain ⟨i0, hi, hz0, hz1, hz2⟩ := info_parts info_node
  have RI := Lib.hid (rheadid_any hd hh)
  have LC : Hid ((hdL hd).length = 68) := hdL_length hh
  have CW : Hid (∀ (W : World) (g : Nat), W.heap[g]? = some (.cells (hdL hd).toArray 27 (0, 0)) → W.cell? ⟨g, 66, none⟩ = some (.int .u32 (hd.work : Int))) := fun W g q => ((HdBox.mk q).cells hh).2.2.1
  have HW : Hid (hd.work ≤ 4294967295) := hh.2.2.2.2.1
  have LX0 : Hid ((ndL (stT hd)).length = 104) := ndL_len (hdId_length hd) hh
  have BT : Hid (Tryz.prog.built 78 [(0, .agg ((hdId hd).map bV).toArray), (1, .agg (hdL hd).toArray), (2, .int .i64 (-1)), (4, .int .u64 (hd.work : Int))] = some (ndL (stT hd)).toArray) := built_nd0 (stT hd) (hdId_length hd) hh rfl rfl
  obtain ⟨cx, hcx⟩ : ∃ cx, cx = ndL (stT hd) := ⟨_, rfl⟩
  have CXE := Lib.hid hcx
  rw [← hcx] at BT LX0
  obtain ⟨ci, hci⟩ : ∃ ci, ci = (hdId hd).map bV := ⟨_, rfl⟩
  rw [← hci] at RI BT
  obtain ⟨cs, hcs⟩ : ∃ cs, cs = hdL hd := ⟨_, rfl⟩
  rw [← hcs] at LC CW RI BT ⊢
  clear hh hci hcs hcx
  go_enter Tryz.func7, Tryz.ntmps7
  go_upto_region 1 with fail
  have f1 := heap_alloc_new w (.cells cs.toArray 27 (0, 0))
  have bb := (Below.refl w.heap.size w).alloc (Nat.le_refl _) (.cells cs.toArray 27 (0, 0))
  generalize hw1 : World.alloc _ _ = w1
  have e1 : w.alloc (.cells cs.toArray 27 (0, 0)) = w1 := hw1
  rw [e1] at f1 bb
  obtain ⟨g1, hg1⟩ : ∃ g1, g1 = w.heap.size := ⟨_, rfl⟩
  rw [← hg1] at f1 ⊢
  have F1 := Lib.hid f1
  have B1 := Lib.hid bb
  clear f1 bb hw1 e1 hg1
  refine wp_region_held_drew (S := (fun w' => Below w1.heap.size w1 w')) (by kernel_rfl) (Below.drew (Below.refl _ _)) (fun hHeld => ?_)
  generalize hwd : w1.drew = wd at  hHeld ⊢
  clear hwd
  refine held_take (i := 0) (v := (.agg cs.toArray)) rfl (by kernel_rfl) (by kernel_rfl) (by kernel_rfl) (fun _ _ _ h => h) (yieldsIf_load_row (by rfl) 27 (.tmp 1) rfl g1 rfl 27 cs.toArray (0, 0) _ (fun w' hw' => row_below F1.out hw') Tryz.underlying27 rfl (by show _ = some cs.length; rw [LC.out]; kernel_rfl)) hHeld ?_
  go_frame
  refine held_take (i := 2) (v := (.agg cs.toArray)) rfl (by kernel_rfl) (by kernel_rfl) (by kernel_rfl) (fun _ _ _ h => h) (yieldsIf_load_row (by rfl) 27 (.tmp 1) rfl g1 rfl 27 cs.toArray (0, 0) _ (fun w' hw' => row_below F1.out hw') Tryz.underlying27 rfl (by show _ = some cs.length; rw [LC.out]; kernel_rfl)) hHeld ?_
  go_frame
  refine held_take (i := 3) (v := (.pointer (some ⟨g1, 66, none⟩))) rfl (by kernel_rfl) (by kernel_rfl) (by kernel_rfl) (fun _ _ _ h => h) (Or.inl ⟨by rfl, fun w' _ => by kernel_rfl⟩) hHeld ?_
  go_frame
  refine held_take (i := 4) (v := (.int .u32 (hd.work : Int))) rfl (by kernel_rfl) (by kernel_rfl) (by kernel_rfl) (fun _ _ _ h => h) (yieldsIf_load_one (by rfl) 23 (.tmp 6) rfl g1 (66) rfl _ _ (fun w' hw' => CW.out _ _ (row_below F1.out hw')) Tryz.underlying23 rfl) hHeld ?_
  go_frame
  refine held_take (i := 5) (v := (.int .u64 (hd.work : Int))) rfl (by kernel_rfl) (by kernel_rfl) (by kernel_rfl) (fun _ _ _ h => h) (Or.inl ⟨by rfl, fun w' _ => by go_simp; have := HW.out; rw [IntKind.wrap_u64]; omega⟩) hHeld ?_
  go_frame
  refine wpAnyH_ready (rs := [1]) (by kernel_rfl) (by simp) (held_cons rfl (fun K hK => ?_) AllReadyH.nil)
  go_simp
  refine (RI.out _).mono ?_
  rintro e v1 ⟨rfl, bb⟩
  have hv1 := hHeld.trans (bb.mono hHeld.size)
  clear bb hHeld
  go_wp2_with fail
  refine hK.out _ _ hv1 (fun hHeld => ?_)
  clear hK K hv1
  refine held_take (i := 6) (v := (.agg cx.toArray)) rfl (by kernel_rfl) (by kernel_rfl) (by kernel_rfl) (fun _ _ _ h => h) (yieldsIf_build (by rfl) 78 _ rfl [(0, .agg ci.toArray), (1, .agg cs.toArray), (2, .int .i64 (-1)), (4, .int .u64 (hd.work : Int))] (by kernel_rfl) _ BT.out) hHeld ?_
  go_frame
  refine wpAnyH_ready (rs := [7]) (by kernel_rfl) (by simp) (held_cons rfl (fun K hK => ?_) AllReadyH.nil)
  rw [if_pos (by rfl)]
  refine wp_slice_one 79 78 (.tmp 9) rfl cx rfl Tryz.underlying79 i0 _ hi hz0 (by rw [hz1, LX0.out]) (by rw [LX0.out]; omega) (by rw [LX0.out]; omega) ?_
  have nf := heap_alloc_new v1 (.cells cx.toArray 78 (0, 0))
  have bb := (Below.refl v1.heap.size v1).alloc (Nat.le_refl _) (.cells cx.toArray 78 (0, 0))
  obtain ⟨gv2, hgv2⟩ : ∃ g, g = v1.heap.size := ⟨_, rfl⟩
  generalize hqv2 : World.alloc _ _ = v2
  have ev2 : v1.alloc (.cells cx.toArray 78 (0, 0)) = v2 := hqv2
  rw [ev2] at nf bb
  rw [← hgv2] at nf ⊢
  have NF := Lib.hid nf
  have GNF : Hid (w1.heap.size ≤ gv2) := by show _ ≤ _; rw [hgv2]; exact hHeld.size
  have hv2 := hHeld.trans (bb.mono hHeld.size)
  clear nf bb hqv2 ev2 hgv2 hHeld
  go_frame
  refine hK.out _ _ hv2 (fun hHeld => ?_)
  clear hK K hv2
  refine held_take (i := 8) (v := (.agg #[(.slice (some ⟨gv2, 0, none⟩) 1 1)])) rfl (by kernel_rfl) (by kernel_rfl) (by kernel_rfl) (fun _ _ _ h => h) (yieldsIf_build (by rfl) 81 _ rfl [(0, (.slice (some ⟨gv2, 0, none⟩) 1 1))] (by kernel_rfl) _ (by kernel_rfl)) hHeld ?_
  go_frame
  refine wpAnyH_ready (rs := [9]) (by kernel_rfl) (by simp) (held_cons rfl (fun K hK => ?_) AllReadyH.nil)
  go_simp
  have nf := heap_alloc_new v2 (.cells ([(.slice (some ⟨gv2, 0, none⟩) 1 1)]).toArray 81 (0, 0))
  have bb := (Below.refl v2.heap.size v2).alloc (Nat.le_refl _) (.cells ([(.slice (some ⟨gv2, 0, none⟩) 1 1)]).toArray 81 (0, 0))
  obtain ⟨gv3, hgv3⟩ : ∃ g, g = v2.heap.size := ⟨_, rfl⟩
  have GTB : Hid (w1.heap.size ≤ gv3) := by show _ ≤ _; rw [hgv3]; exact hHeld.size
  generalize hqv3 : World.alloc _ _ = v3
  have ev3 : v2.alloc (.cells ([(.slice (some ⟨gv2, 0, none⟩) 1 1)]).toArray 81 (0, 0)) = v3 := hqv3
  rw [ev3] at nf bb
  rw [← hgv3] at nf ⊢
  have TB := Lib.hid nf
  have NF := Lib.hid (row_below NF.out bb)
  have hv3 := hHeld.trans (bb.mono hHeld.size)
  clear nf bb hqv3 ev3 hgv3 hHeld
  refine hK.out _ _ hv3 (fun hHeld => ?_)
  clear hK K hv3
  refine held_take (i := 10) (v := (.pointer (some ⟨gv3, 0, none⟩))) rfl (by kernel_rfl) (by kernel_rfl) (by kernel_rfl) (fun _ _ _ h => h) (Or.inl ⟨by rfl, fun w' _ => by kernel_rfl⟩) hHeld ?_
  go_frame
  refine wpAnyH_done (by kernel_rfl) ?_ _
  go_wp2_with fail
  go_ret
  refine ⟨_, _, rfl, ⟨TB.out, ?_⟩, by have := GTB.out; have := B1.out.size; omega, B1.out.trans (hHeld.mono B1.out.size)⟩
  rw [List.map_singleton, ← CXE.out]
  exact rw_of_row NF.out (by have := GNF.out; have := B1.out.size; omega) LX0.out
end Go.Proofs.YtbgagaaoldjhnaaGreatDoor.Sha

/-
  The tree of headers as a list of nodes: chains from the start up, ancestors by height, where two chains part; what the list keeps as it grows. No conditions.
-/
namespace Go.Proofs.YtbgagaaoldjhnaaGreatDoor.Sha
open Go Go.RowKit
/-- Each node's height is how many stand beneath it. -/
def Tall (L : List TNd) : Prop := ∀ (i : Nat) (x : TNd), L[i]? = some x → x.height + 1 = ((upL L (i : Int)).length : Int)
structure TrL (L : List TNd) : Prop where
  ok : ∀ x ∈ L, NdOk x
  down : Down L
  root : Rooted L
  tall : Tall L
  pos : 0 < L.length
  le : L.length ≤ 4096
  ids : L.Pairwise fun x y => x.id ≠ y.id
theorem parT_push {L : List TNd} {y : TNd} {k : Nat} (h : k < L.length) : parT (L ++ [y]) k = parT L k := by
  unfold parT
  rw [List.getElem?_append_left h]
theorem upF_push {L : List TNd} (hd : Down L) (y : TNd) : ∀ (f : Nat) (k : Int), k < (L.length : Int) → upF (L ++ [y]) f k = upF L f k
  | 0, _, _ => rfl
  | f + 1, k, h => by
    rw [upF, upF]
    by_cases h0 : k < 0
    · rw [if_pos h0, if_pos h0]
    · rw [if_neg h0, if_neg h0]
      have hk : k.toNat < L.length := by omega
      rw [parT_push hk]
      obtain ⟨x, hx⟩ : ∃ x, L[k.toNat]? = some x := ⟨_, List.getElem?_eq_getElem hk⟩
      have hp := hd _ _ hx
      have e : parT L k.toNat = x.parent := by unfold parT; rw [hx]
      rw [e, upF_push hd y f x.parent (by omega)]
theorem upL_push {L : List TNd} (hd : Down L) (y : TNd) {k : Int} (h : k < (L.length : Int)) : upL (L ++ [y]) k = upL L k := upF_push hd y _ k h
theorem getD_at {L : List TNd} {k : Nat} {x : TNd} (h : L[k]? = some x) : L.getD k ndZ = x := by rw [List.getD_eq_getElem?_getD, h]; rfl
theorem getD_int {L : List TNd} {k : Nat} {x : TNd} (h : L[k]? = some x) : L.getD (k : Int).toNat ndZ = x := getD_at (by simpa using h)
theorem TrL.parent {L : List TNd} (h : TrL L) {i : Nat} {x : TNd} (hx : L[i]? = some x) : (i = 0 ∧ x.parent = -1 ∧ x.height = 0) ∨ ∃ (p : Nat) (y : TNd), p < i ∧ x.parent = (p : Int) ∧ L[p]? = some y ∧ x.height = y.height + 1 := by
  have hp := h.down _ _ hx
  have ht := h.tall _ _ hx
  rw [upL_step h.down hx] at ht
  by_cases h0 : i = 0
  · refine Or.inl ⟨h0, by omega, ?_⟩
    rw [upL_neg (by omega)] at ht
    simp at ht
    omega
  · have hr := h.root _ _ hx (by omega)
    have hi : i < L.length := (List.getElem?_eq_some_iff.1 hx).1
    obtain ⟨p, e⟩ : ∃ p : Nat, x.parent = (p : Int) := ⟨x.parent.toNat, by omega⟩
    obtain ⟨y, hy⟩ : ∃ y, L[p]? = some y := ⟨_, List.getElem?_eq_getElem (by omega)⟩
    have hty := h.tall _ _ hy
    rw [e] at ht
    rw [List.length_cons] at ht
    exact Or.inr ⟨p, y, by omega, e, hy, by omega⟩
theorem TrL.height {L : List TNd} (h : TrL L) {i : Nat} {x : TNd} (hx : L[i]? = some x) : 0 ≤ x.height ∧ x.height ≤ (i : Int) := by
  have ht := h.tall _ _ hx
  have hi : i < L.length := (List.getElem?_eq_some_iff.1 hx).1
  have hb := upL_bound h.down i i (Nat.le_refl _) hi
  rw [upL_step h.down hx] at ht hb
  rw [List.length_cons] at ht hb
  omega
theorem stT_tr {h : THd} (hh : HdOk h) : TrL [stT h] := by
  have hd : Down [stT h] := fun i x hx => by
    cases i with
    | zero => cases hx; exact ⟨Int.le_refl _, by show (-1 : Int) < 0; omega⟩
    | succ i => cases hx
  have hw := hh.2.2.2.2.1
  refine ⟨fun x hx => ?_, hd, fun i x hx h0 => ?_, fun i x hx => ?_, Nat.le_refl _, by simp, List.pairwise_singleton _ _⟩
  · rcases List.mem_singleton.1 hx with rfl
    exact ⟨hdId_length h, hh, Int.le_refl _, by show (-1 : Int) ≤ 4096; omega, Int.le_refl _, by show (0 : Int) ≤ 4096; omega, by show h.work ≤ _; omega⟩
  · cases i with
    | zero => omega
    | succ i => cases hx
  · rw [upL_step hd hx]
    cases i with
    | zero => cases hx; rw [upL_neg (by show (-1 : Int) < 0; omega)]; rfl
    | succ i => cases hx
theorem TrL.push {L : List TNd} {hd : THd} (h : TrL L) (hh : HdOk hd) (ha : addE L hd = 0) : TrL (L ++ [nxT L hd]) := by
  unfold addE at ha
  split at ha
  · omega
  split at ha
  · omega
  split at ha
  · omega
  rename_i h1 h2 h3
  obtain ⟨n, x, hf, hx, -, -⟩ : ∃ (k : Nat) (x : TNd), findT L hd.prev = (k : Int) ∧ L[k]? = some x ∧ True ∧ True := by
    rcases findT_cases L hd.prev with ⟨e, _⟩ | ⟨k, x, e, hx, _⟩
    · omega
    · exact ⟨k, x, e, hx, trivial, trivial⟩
  have hn : n < L.length := (List.getElem?_eq_some_iff.1 hx).1
  have hno : ∀ y ∈ L, y.id ≠ hdId hd := by
    rcases findT_cases L (hdId hd) with ⟨_, e⟩ | ⟨k, x, e, _⟩
    · exact e
    · omega
  have eP : (nxT L hd).parent = (n : Int) := hf
  have eH : (nxT L hd).height = x.height + 1 := by unfold nxT; rw [hf]; simp only [getD_int hx]
  have hxh := h.height hx
  have hdn : Down (L ++ [nxT L hd]) := fun i y hy => by
    by_cases hi : i < L.length
    · rw [List.getElem?_append_left hi] at hy
      exact h.down _ _ hy
    · have e : i = L.length := by have := (List.getElem?_eq_some_iff.1 hy).1; simp at this; omega
      rw [e, List.getElem?_append_right (Nat.le_refl _), Nat.sub_self] at hy
      cases hy
      rw [eP]
      omega
  refine ⟨fun y hy => ?_, hdn, fun i y hy h0 => ?_, fun i y hy => ?_, by simp, by rw [List.length_append]; simp; omega, ?_⟩
  · rcases List.mem_append.1 hy with hy | hy
    · exact h.ok _ hy
    · rcases List.mem_singleton.1 hy with rfl
      refine ⟨hdId_length hd, hh, by rw [eP]; omega, by rw [eP]; omega, by rw [eH]; omega, by rw [eH]; omega, ?_⟩
      show (_ + _) % _ ≤ _
      omega
  · by_cases hi : i < L.length
    · rw [List.getElem?_append_left hi] at hy
      exact h.root _ _ hy h0
    · have e : i = L.length := by have := (List.getElem?_eq_some_iff.1 hy).1; simp at this; omega
      rw [e, List.getElem?_append_right (Nat.le_refl _), Nat.sub_self] at hy
      cases hy
      rw [eP]
      omega
  · by_cases hi : i < L.length
    · rw [List.getElem?_append_left hi] at hy
      rw [upL_push h.down _ (by omega)]
      exact h.tall _ _ hy
    · have e : i = L.length := by have := (List.getElem?_eq_some_iff.1 hy).1; simp at this; omega
      rw [upL_step hdn hy, List.length_cons]
      rw [e, List.getElem?_append_right (Nat.le_refl _), Nat.sub_self] at hy
      cases hy
      rw [eP, eH, upL_push h.down _ (by omega)]
      have := h.tall _ _ hx
      omega
  · rw [List.pairwise_append]
    exact ⟨h.ids, List.pairwise_singleton _ _, fun a ha b hb => by rcases List.mem_singleton.1 hb with rfl; exact hno a ha⟩
/-- The chain from the start up to a node. -/
def chainT (L : List TNd) (k : Int) : List Int := (upL L k).reverse
theorem chain_neg {L : List TNd} {k : Int} (h : k < 0) : chainT L k = [] := by unfold chainT; rw [upL_neg h]; rfl
theorem chain_step {L : List TNd} (hd : Down L) {k : Nat} {x : TNd} (hx : L[k]? = some x) : chainT L (k : Int) = chainT L x.parent ++ [(k : Int)] := by
  unfold chainT
  rw [upL_step hd hx, List.reverse_cons]
theorem chain_length {L : List TNd} (h : TrL L) {k : Nat} {x : TNd} (hx : L[k]? = some x) : ((chainT L (k : Int)).length : Int) = x.height + 1 := by
  unfold chainT
  rw [List.length_reverse]
  exact (h.tall _ _ hx).symm
theorem chain_par {L : List TNd} (h : TrL L) {k : Nat} {x : TNd} (hx : L[k]? = some x) : ((chainT L x.parent).length : Int) = x.height := by
  have := chain_length h hx
  rw [chain_step h.down hx, List.length_append, List.length_singleton] at this
  omega
/-- The one of a height on the way down. -/
def ancT (L : List TNd) (k h : Int) : Option Int := if h < 0 then none else (chainT L k)[h.toNat]?
theorem anc_neg {L : List TNd} {k h : Int} (hk : k < 0) : ancT L k h = none := by
  unfold ancT
  rw [chain_neg hk]
  split <;> rfl
theorem anc_self {L : List TNd} (h : TrL L) {k : Nat} {x : TNd} (hx : L[k]? = some x) : ancT L (k : Int) x.height = some (k : Int) := by
  unfold ancT
  have h0 := h.height hx
  rw [if_neg (by omega), chain_step h.down hx]
  have := chain_par h hx
  rw [List.getElem?_append_right (by omega), show x.height.toNat - (chainT L x.parent).length = 0 by omega]
  rfl
theorem anc_step {L : List TNd} (h : TrL L) {k : Nat} {x : TNd} (hx : L[k]? = some x) {t : Int} (ht : t ≠ x.height) : ancT L (k : Int) t = ancT L x.parent t := by
  unfold ancT
  split
  · rfl
  have := chain_par h hx
  rw [chain_step h.down hx]
  by_cases hl : t < x.height
  · rw [List.getElem?_append_left (by omega)]
  · rw [List.getElem?_append_right (by omega), List.getElem?_eq_none (l := [(k : Int)]) (by simp; omega), List.getElem?_eq_none (by omega)]
theorem anc_none {L : List TNd} (h : TrL L) {k : Nat} {x : TNd} (hx : L[k]? = some x) {t : Int} (ht : t < 0 ∨ x.height < t) : ancT L (k : Int) t = none := by
  unfold ancT
  split
  · rfl
  have := chain_length h hx
  rw [List.getElem?_eq_none (by omega)]
theorem anc_is {L : List TNd} (h : TrL L) : ∀ (n k : Nat) (x : TNd) (t : Int), k ≤ n → L[k]? = some x → 0 ≤ t → t ≤ x.height → ∃ (j : Nat) (y : TNd), ancT L (k : Int) t = some (j : Int) ∧ j ≤ k ∧ L[j]? = some y ∧ y.height = t
  | n, k, x, t, hk, hx, h0, h1 => by
    by_cases e : t = x.height
    · exact ⟨k, x, by rw [e]; exact anc_self h hx, Nat.le_refl _, hx, e.symm⟩
    · rw [anc_step h hx e]
      rcases h.parent hx with ⟨_, _, h3⟩ | ⟨p, y, h2, h3, h4, h5⟩
      · omega
      · cases n with
        | zero => omega
        | succ n =>
          obtain ⟨j, z, q1, q2, q3, q4⟩ := anc_is h n p y t (by omega) h4 h0 (by omega)
          exact ⟨j, z, by rw [h3]; exact q1, by omega, q3, q4⟩
/-- Up to an ancestor a chain is that ancestor's. -/
theorem anc_chain {L : List TNd} (h : TrL L) : ∀ (n k : Nat) (x : TNd) (j t : Nat), k ≤ n → L[k]? = some x → (chainT L (k : Int))[t]? = some (j : Int) → (chainT L (k : Int)).take (t + 1) = chainT L (j : Int)
  | n, k, x, j, t, hk, hx, ha => by
    have hl := chain_par h hx
    have hc := chain_step h.down hx
    rw [hc] at ha ⊢
    by_cases e : t < (chainT L x.parent).length
    · rw [List.getElem?_append_left e] at ha
      rw [List.take_append_of_le_length (by omega)]
      rcases h.parent hx with ⟨_, h2, _⟩ | ⟨p, y, h2, h3, h4, h5⟩
      · rw [chain_neg (by omega)] at e
        simp at e
      · rw [h3] at ha ⊢
        cases n with
        | zero => omega
        | succ n => exact anc_chain h n p y j t (by omega) h4 ha
    · have e2 : t = (chainT L x.parent).length := by
        have := (List.getElem?_eq_some_iff.1 ha).1
        simp at this
        omega
      rw [e2, List.getElem?_append_right (Nat.le_refl _), Nat.sub_self] at ha
      have e3 : (k : Int) = (j : Int) := by simpa using ha
      rw [← e3, hc, List.take_of_length_le (by simp; omega)]
theorem com_chain {L : List TNd} (h : TrL L) {a b j t : Nat} {x y : TNd} (hx : L[a]? = some x) (hy : L[b]? = some y) (h1 : (chainT L (a : Int))[t]? = some (j : Int)) (h2 : (chainT L (b : Int))[t]? = some (j : Int)) (hne : ∀ s : Nat, t < s → s < (chainT L (a : Int)).length → s < (chainT L (b : Int)).length → (chainT L (a : Int))[s]? ≠ (chainT L (b : Int))[s]?) : comT L (a : Int) (b : Int) = t + 1 := by
  have q1 := anc_chain h a a x j t (Nat.le_refl _) hx h1
  have q2 := anc_chain h b b y j t (Nat.le_refl _) hy h2
  have l1 := (List.getElem?_eq_some_iff.1 h1).1
  have l2 := (List.getElem?_eq_some_iff.1 h2).1
  refine comP_at _ _ (t + 1) l1 l2 (fun i hi => ?_) ?_
  · have e : ((chainT L (a : Int)).take (t + 1))[i]? = ((chainT L (b : Int)).take (t + 1))[i]? := by rw [q1, q2]
    rw [List.getElem?_take_of_lt hi, List.getElem?_take_of_lt hi] at e
    exact e
  · by_cases e1 : t + 1 = (chainT L (a : Int)).length
    · exact Or.inl e1
    by_cases e2 : t + 1 = (chainT L (b : Int)).length
    · exact Or.inr (Or.inl e2)
    · exact Or.inr (Or.inr (hne (t + 1) (by omega) (by omega) (by omega)))
theorem chain_zero {L : List TNd} (h : TrL L) {k : Nat} {x : TNd} (hx : L[k]? = some x) : (chainT L (k : Int))[0]? = some 0 := by
  have := upL_last h.down h.root k k (Nat.le_refl _) (List.getElem?_eq_some_iff.1 hx).1
  unfold chainT
  rw [← List.head?_eq_getElem?, List.head?_reverse]
  exact this
theorem up_chain {L : List TNd} {k : Int} {p : Nat} (h : p < (chainT L k).length) : (upL L k)[p]? = (chainT L k)[(chainT L k).length - 1 - p]? := by
  unfold chainT at h ⊢
  rw [List.length_reverse] at h ⊢
  rw [List.getElem?_reverse (by omega)]
  congr 1
  omega
/-- Who hangs on a node, in order. -/
def kidsI (L : List TNd) (i : Nat) : List Nat := (List.range L.length).filter fun j => decide (parT L j = (i : Int))
theorem kidsI_push {L : List TNd} {y : TNd} {i : Nat} : kidsI (L ++ [y]) i = kidsI L i ++ (if y.parent = (i : Int) then [L.length] else []) := by
  unfold kidsI
  have e : parT (L ++ [y]) L.length = y.parent := by unfold parT; rw [List.getElem?_append_right (Nat.le_refl _), Nat.sub_self]; rfl
  rw [List.length_append, List.length_singleton, List.range_succ, List.filter_append]
  congr 1
  · refine List.filter_congr fun j hj => ?_
    rw [parT_push (List.mem_range.1 hj)]
  · by_cases h : y.parent = (i : Int)
    · rw [if_pos h]; simp [List.filter_cons, e, h]
    · rw [if_neg h]; simp [List.filter_cons, e, h]
theorem kidsI_lt {L : List TNd} {i j : Nat} (h : j ∈ kidsI L i) : j < L.length := List.mem_range.1 (List.mem_filter.1 h).1
theorem kidsI_par {L : List TNd} {i j : Nat} (h : j ∈ kidsI L i) : parT L j = (i : Int) := by simpa using (List.mem_filter.1 h).2
theorem kidsI_last {L : List TNd} (hd : Down L) {y : TNd} (hn : y.parent < (L.length : Int)) : kidsI (L ++ [y]) L.length = [] := by
  rw [kidsI_push, if_neg (by omega), List.append_nil]
  unfold kidsI
  rw [List.filter_eq_nil_iff]
  intro j hj
  have hj := List.mem_range.1 hj
  obtain ⟨x, hx⟩ : ∃ x, L[j]? = some x := ⟨_, List.getElem?_eq_getElem hj⟩
  have := hd _ _ hx
  unfold parT
  rw [hx]
  simp
  omega
end Go.Proofs.YtbgagaaoldjhnaaGreatDoor.Sha

/-
  A map of any keys and values: what is found, put (a new key, or one that is there), taken away, counted; places of coins, and digests, as keys. Conditions: the keys are as the model has them.
-/
namespace Go.Proofs.YtbgagaaoldjhnaaGreatDoor.Sha
open Go Go.RowKit Go.MapKept
open Go.ChangeMaps (setBlock heap_setBlock_same heap_setBlock_other)
/-- What a map's types have to give: keys a of α as values kf a, values b of β as vf b; z: the zero value. -/
structure MTy (α β : Type) (kT vT mT : TypeId) (kf : α → Value) (vf : β → Value) (ok : α → Prop) (z : β) : Prop where
  law : WideMaps.KeyLaw Tryz.prog kT
  und : Tryz.prog.underlying mT = some (.map kT vT)
  key : ∀ a, ok a → ∃ l, keyOf Tryz.prog kT (kf a) = some l
  inj : ∀ a b, kf a = kf b → a = b
  zero : ∀ w, (zeroValue vT).run Tryz.prog w = .ok (vf z) w
/-- Block b is a map of these entries. -/
def MpAt {α β : Type} (kf : α → Value) (vf : β → Value) (ok : α → Prop) (w : World) (b : Nat) (l : List (α × β)) : Prop :=
  ∃ es clock, w.heap[b]? = some (.map es clock) ∧ Stamped es clock ∧ es.toList.map kvE = l.map (fun x => (kf x.1, vf x.2)) ∧ ∀ x ∈ l, ok x.1
section
variable {α β : Type} [DecidableEq α]
def getG (l : List (α × β)) (a : α) : Option β := (l.find? (fun x => decide (x.1 = a))).map (·.2)
def putG (l : List (α × β)) (a : α) (b : β) : List (α × β) := if (getG l a).isSome then l.map (fun x => if x.1 = a then (a, b) else x) else l ++ [(a, b)]
theorem getG_none {l : List (α × β)} {a : α} (h : ∀ x ∈ l, x.1 ≠ a) : getG l a = none := by
  unfold getG
  rw [List.find?_eq_none.2 (fun x hx => by simpa using h x hx)]
  rfl
theorem getG_ne {l : List (α × β)} {a : α} (h : getG l a = none) : ∀ x ∈ l, x.1 ≠ a := by
  unfold getG at h
  rw [Option.map_eq_none_iff, List.find?_eq_none] at h
  exact fun x hx e => h x hx (by simpa using e)
theorem getG_some : ∀ {l : List (α × β)} {a : α} {j : Nat} {x : α × β}, l.Pairwise (fun x y => x.1 ≠ y.1) → l[j]? = some x → x.1 = a → getG l a = some x.2
  | y :: l, p, 0, x, _, hj, hp => by
    simp only [List.getElem?_cons_zero, Option.some.injEq] at hj
    subst hj
    simp [getG, hp]
  | y :: l, p, j + 1, x, ha, hj, hp => by
    obtain ⟨h1, h2⟩ := List.pairwise_cons.1 ha
    have hj' : l[j]? = some x := by simpa using hj
    have hne : ¬ y.1 = p := fun e => h1 x (List.mem_of_getElem? hj') (by rw [e, hp])
    have := getG_some h2 hj' hp
    unfold getG at this ⊢
    rw [List.find?_cons_of_neg (by simpa using hne)]
    exact this
  | [], _, _, _, _, hj, _ => by simp at hj
theorem getG_nil (a : α) : getG ([] : List (α × β)) a = none := rfl
variable {kT vT mT : TypeId} {kf : α → Value} {vf : β → Value} {ok : α → Prop} {z : β} {w : World} {b : Nat} {l : List (α × β)}
omit [DecidableEq α] in
theorem gm_get {es : Array MapEntry} (h : es.toList.map kvE = l.map (fun x => (kf x.1, vf x.2))) {j : Nat} {e : MapEntry} (hj : es.toList[j]? = some e) : ∃ x, l[j]? = some x ∧ e.key = kf x.1 ∧ e.val = vf x.2 := by
  have h1 := congrArg (·[j]?) h
  simp only [List.getElem?_map, hj, Option.map_some] at h1
  cases hx : l[j]? with
  | none => simp [hx] at h1
  | some x =>
    rw [hx, Option.map_some, Option.some.injEq, kvE, Prod.mk.injEq] at h1
    exact ⟨x, rfl, h1.1, h1.2⟩
omit [DecidableEq α] in
theorem gm_mem {es : Array MapEntry} (h : es.toList.map kvE = l.map (fun x => (kf x.1, vf x.2))) {e : MapEntry} (he : e ∈ es.toList) : ∃ x ∈ l, e.key = kf x.1 ∧ e.val = vf x.2 := by
  obtain ⟨j, hj⟩ := List.getElem?_of_mem he
  obtain ⟨x, hx, h1⟩ := gm_get h hj
  exact ⟨x, List.mem_of_getElem? hx, h1⟩
omit [DecidableEq α] in
theorem gm_mem' {es : Array MapEntry} (h : es.toList.map kvE = l.map (fun x => (kf x.1, vf x.2))) {x : α × β} (hx : x ∈ l) : ∃ e ∈ es.toList, e.key = kf x.1 ∧ e.val = vf x.2 := by
  have h1 : (kf x.1, vf x.2) ∈ es.toList.map kvE := by rw [h]; exact List.mem_map.2 ⟨x, hx, rfl⟩
  obtain ⟨e, he, h2⟩ := List.mem_map.1 h1
  rw [kvE, Prod.mk.injEq] at h2
  exact ⟨e, he, h2.1, h2.2⟩
omit [DecidableEq α] in
/-- No key has two values. -/
theorem MpAt.apart (h : MpAt kf vf ok w b l) : l.Pairwise (fun x y => x.1 ≠ y.1) := by
  obtain ⟨es, clock, _, hs, he, _⟩ := h
  have h1 := ((stamped_iff es clock).1 hs).2.2
  have h2 : (es.toList.map kvE).Pairwise (fun p q => p.1 ≠ q.1) := by
    rw [List.pairwise_map]
    exact h1
  rw [he, List.pairwise_map] at h2
  exact h2.imp (fun {x y} hne e => hne (by show kf _ = kf _; rw [e]))
omit [DecidableEq α] in
theorem MpAt.lt (h : MpAt kf vf ok w b l) : b < w.heap.size := by
  obtain ⟨_, _, hb, _⟩ := h
  exact (Array.getElem?_eq_some_iff.1 hb).1
omit [DecidableEq α] in
theorem MpAt.kps {F : Nat → Prop} {w' : World} (h : MpAt kf vf ok w b l) (hk : Kps F w w') (hf : F b) : MpAt kf vf ok w' b l := by
  obtain ⟨es, clock, hb, h2⟩ := h
  exact ⟨es, clock, row_kps hb hk hf, h2⟩
omit [DecidableEq α] in
theorem MpAt.below {w' : World} (h : MpAt kf vf ok w b l) (hb : Below w.heap.size w w') : MpAt kf vf ok w' b l := by
  obtain ⟨es, clock, h1, h2⟩ := h
  exact ⟨es, clock, row_below h1 hb, h2⟩
omit [DecidableEq α] in
/-- A map's block is no block of cells. -/
theorem MpAt.ne (h : MpAt kf vf ok w b l) {x : Nat} {cs : Array Value} {T : TypeId} {fr : Nat × Nat} (hx : w.heap[x]? = some (.cells cs T fr)) : x ≠ b := by
  rintro rfl
  obtain ⟨es, clock, h1, _⟩ := h
  rw [h1] at hx
  cases hx
omit [DecidableEq α] in
theorem gm_find (M : MTy α β kT vT mT kf vf ok z) {es : Array MapEntry} (he : es.toList.map kvE = l.map (fun x => (kf x.1, vf x.2))) (ho : ∀ x ∈ l, ok x.1) (a : α) (ha : ok a) (W : World) :
    ((Instr.findKey kT (kf a) es.toList).run Tryz.prog W = .ok none W ∧ ∀ x ∈ l, x.1 ≠ a) ∨
    ∃ j x, (Instr.findKey kT (kf a) es.toList).run Tryz.prog W = .ok (some (j, vf x.2)) W ∧ l[j]? = some x ∧ x.1 = a := by
  obtain ⟨lx, hlx⟩ := M.key a ha
  rcases M.law.find W hlx es.toList (fun e hem => by
    obtain ⟨x, hx, hk, _⟩ := gm_mem he hem
    rw [hk]
    exact M.key _ (ho x hx)) with ⟨h1, h2⟩ | ⟨j, e, h1, h2, h3⟩
  · refine .inl ⟨h1, fun x hx e => ?_⟩
    obtain ⟨en, hen, hk, _⟩ := gm_mem' he hx
    exact h2 en hen (by rw [hk, e])
  · obtain ⟨x, hx, hk, hv⟩ := gm_get he h2
    exact .inr ⟨j, x, by rw [h1, hv], hx, M.inj _ _ (by rw [← hk, h3])⟩
omit [DecidableEq α] in
theorem gm_check (M : MTy α β kT vT mT kf vf ok z) (em : Bool) (a : α) (ha : ok a) (W : World) : (Instr.checkKey em 10000 kT (kf a)).run Tryz.prog W = .ok () W := by
  obtain ⟨lx, hlx⟩ := M.key a ha
  exact M.law.check W em hlx
/-- 'v, ok := m[a]'. -/
theorem gm_look (M : MTy α β kT vT mT kf vf ok z) (h : MpAt kf vf ok w b l) (a : α) (ha : ok a) :
    (Instr.lookup mT (.map (some b)) (kf a) true).run Tryz.prog w = .ok (.tuple #[vf ((getG l a).getD z), .bool (getG l a).isSome]) w := by
  have hap := MpAt.apart h
  obtain ⟨es, clock, hb, hs, he, ho⟩ := h
  rcases gm_find M he ho a ha w with ⟨h1, h2⟩ | ⟨j, x, h1, h2, h3⟩
  · rw [getG_none h2]
    simp [Instr.lookup, run_underlying M.und, MapKept.run_getObj_map hb, gm_check M _ a ha, h1, M.zero, Result.andThen]
  · rw [getG_some hap h2 h3]
    simp [Instr.lookup, run_underlying M.und, MapKept.run_getObj_map hb, gm_check M _ a ha, h1, Result.andThen]
/-- 'm[a] = c' at a key that is not there. -/
theorem gm_push (M : MTy α β kT vT mT kf vf ok z) (h : MpAt kf vf ok w b l) (a : α) (ha : ok a) (c : β) (hn : getG l a = none) :
    ∃ w', (Instr.mapUpdate mT (.map (some b)) (kf a) (vf c)).run Tryz.prog w = .ok () w' ∧ MpAt kf vf ok w' b (l ++ [(a, c)]) ∧ w.grownBy w' (some b) := by
  obtain ⟨es, clock, hb, hs, he, ho⟩ := h
  rcases gm_find M he ho a ha w with ⟨h1, h2⟩ | ⟨j, x, _, h2, h3⟩
  · refine ⟨setBlock w b (.map (es.push { key := kf a, val := vf c, born := clock }) (clock + 1)), ?_, ⟨_, _, heap_setBlock_same hb _, stamped_push hs (fun e hem => ?_), ?_, fun x hx => ?_⟩, ⟨rfl, rfl, rfl, by simp [setBlock], fun i _ hi => heap_setBlock_other hb _ (fun e => hi (by rw [e]))⟩⟩
    · simp [Instr.mapUpdate, run_underlying M.und, MapKept.run_getObj_map hb, gm_check M _ a ha, h1, MapKept.run_setObj_map _ hb, Result.andThen, setBlock]
    · obtain ⟨x, hx, hk, _⟩ := gm_mem he hem
      rw [hk]
      exact fun e => h2 x hx (M.inj _ _ e)
    · rw [Array.toList_push, List.map_append, List.map_append, he]
      rfl
    · rcases List.mem_append.1 hx with hx | hx
      · exact ho x hx
      · rw [List.mem_singleton.1 hx]
        exact ha
  · exact absurd h3 (getG_ne hn x (List.mem_of_getElem? h2))
theorem putmap_idx : ∀ {l : List (α × β)} {a : α} {j : Nat} {x : α × β} (c : β), l.Pairwise (fun x y => x.1 ≠ y.1) → l[j]? = some x → x.1 = a → l.modify j (fun _ => (a, c)) = l.map (fun x => if x.1 = a then (a, c) else x)
  | y :: l, p, 0, x, c, ha, hj, hp => by
    simp only [List.getElem?_cons_zero, Option.some.injEq] at hj
    subst hj
    obtain ⟨h1, h2⟩ := List.pairwise_cons.1 ha
    have : l.map (fun x => if x.1 = p then (p, c) else x) = l := by
      conv => rhs; rw [← List.map_id l]
      exact List.map_congr_left fun z hz => if_neg fun e => h1 z hz (by rw [hp, e])
    rw [List.map_cons, this, if_pos hp]
    rfl
  | y :: l, p, j + 1, x, c, ha, hj, hp => by
    obtain ⟨h1, h2⟩ := List.pairwise_cons.1 ha
    have hj' : l[j]? = some x := by simpa using hj
    have hne : ¬ y.1 = p := fun e => h1 x (List.mem_of_getElem? hj') (by rw [e, hp])
    have := putmap_idx c h2 hj' hp
    rw [List.map_cons, if_neg hne, ← this]
    rfl
  | [], _, _, _, _, _, hj, _ => by simp at hj
/-- 'm[a] = c', at whatever key. -/
theorem gm_put (M : MTy α β kT vT mT kf vf ok z) (h : MpAt kf vf ok w b l) (a : α) (ha : ok a) (c : β) :
    ∃ w', (Instr.mapUpdate mT (.map (some b)) (kf a) (vf c)).run Tryz.prog w = .ok () w' ∧ MpAt kf vf ok w' b (putG l a c) ∧ w.grownBy w' (some b) := by
  cases hg : getG l a with
  | none =>
    have := gm_push M h a ha c hg
    unfold putG
    rw [hg]
    exact this
  | some c0 =>
    have e : putG l a c = l.map (fun x => if x.1 = a then (a, c) else x) := by unfold putG; rw [hg]; rfl
    rw [e]
    have hap := MpAt.apart h
    obtain ⟨es, clock, hb, hs, he, ho⟩ := h
    rcases gm_find M he ho a ha w with ⟨_, h2⟩ | ⟨j, x, h1, h2, h3⟩
    · rw [getG_none h2] at hg
      cases hg
    · obtain ⟨en, hen, hk⟩ : ∃ en, es[j]? = some en ∧ en.key = kf a := by
        have h4 := congrArg (·[j]?) he
        simp only [List.getElem?_map, h2, Option.map_some] at h4
        cases hx : es.toList[j]? with
        | none => simp [hx] at h4
        | some en =>
          rw [hx, Option.map_some, Option.some.injEq, kvE, Prod.mk.injEq] at h4
          exact ⟨en, by rw [← Array.getElem?_toList]; exact hx, by rw [h4.1, h3]⟩
      obtain ⟨lx, hlx⟩ := M.key a ha
      refine ⟨setBlock w b (.map (es.modify j fun e => { e with key := kf a, val := vf c }) clock), ?_, ⟨_, _, heap_setBlock_same hb _, stamped_modify hs j _ (fun _ _ => rfl) (fun e _ hej => ?_), ?_, fun x hx => ?_⟩, ⟨rfl, rfl, rfl, by simp [setBlock], fun i _ hi => heap_setBlock_other hb _ (fun e => hi (by rw [e]))⟩⟩
      · simp [Instr.mapUpdate, run_underlying M.und, MapKept.run_getObj_map hb, gm_check M _ a ha, h1, hen, hk, M.law.stays w hlx, MapKept.run_setObj_map _ hb, Result.andThen, setBlock]
      · rw [hen, Option.some.injEq] at hej
        rw [← hej]
        exact hk.symm
      · rw [Array.toList_modify, ← putmap_idx c hap h2 h3]
        have h5 : ∀ (L : List MapEntry) (M : List (α × β)) (i : Nat), L.map kvE = M.map (fun x => (kf x.1, vf x.2)) → (L.modify i fun e => { e with key := kf a, val := vf c }).map kvE = (M.modify i fun _ => (a, c)).map (fun x => (kf x.1, vf x.2)) := by
          intro L
          induction L with
          | nil =>
            intro M i hM
            rw [List.map_nil, eq_comm, List.map_eq_nil_iff] at hM
            subst hM
            simp
          | cons y L ih =>
            intro M i hM
            cases M with
            | nil => simp at hM
            | cons m M =>
              rw [List.map_cons, List.map_cons, List.cons.injEq] at hM
              cases i with
              | zero =>
                show kvE { y with key := kf a, val := vf c } :: L.map kvE = (kf a, vf c) :: M.map _
                rw [hM.2]
                rfl
              | succ i =>
                show kvE y :: (L.modify i _).map kvE = (kf m.1, vf m.2) :: (M.modify i _).map _
                rw [ih M i hM.2, hM.1]
        exact h5 _ _ _ he
      · obtain ⟨y, hy, rfl⟩ := List.mem_map.1 hx
        by_cases hya : y.1 = a
        · rw [if_pos hya]
          exact ha
        · rw [if_neg hya]
          exact ho y hy
omit [DecidableEq α] in
/-- 'len(m)'. -/
theorem gm_len (M : MTy α β kT vT mT kf vf ok z) (h : MpAt kf vf ok w b l) (ty : TypeId) : (Builtin.len_ #[mT] ty #[.map (some b)]).run Tryz.prog w = .ok (.int .i64 (l.length : Int)) w := by
  obtain ⟨es, clock, hb, hs, he, ho⟩ := h
  have h4 := congrArg List.length he
  simp only [List.length_map] at h4
  rw [← h4]
  simp [Builtin.len_, run_underlying M.und, MapKept.run_getObj_map hb, goInt, Result.andThen]
/-- 'm[a] = c' in a region. -/
theorem wp_put_gm (M : MTy α β kT vT mT kf vf ok z) {op : Oper} {a : Act} {K : Act → World → Prop} {Q : Exit → Act → World → Prop} (x y q : Operand) (ho : op.op = Op.mapUpdate mT x y q)
    (p : α) (hp : ok p) (c : β) (hx : a.eval x = .map (some b)) (hy : a.eval y = kf p) (hz : a.eval q = vf c) (hm : MpAt kf vf ok w b l)
    (hK : ∀ w', MpAt kf vf ok w' b (putG l p c) → w.grownBy w' (some b) → K (a.put op.dst undef) w') : op.wp Tryz.prog a w K Q := by
  obtain ⟨w', hrun, r1, r2⟩ := gm_put M hm p hp c
  unfold Oper.wp
  simp [execOp, ho, hx, hy, hz, hrun, Result.andThen]
  exact hK w' r1 r2
end
/-! Digests as keys. -/
theorem hash_keyAt : Tryz.prog.keyTypeAt 2 25 = true := by kernel_rfl
theorem cm_hash_row : 25 < Tryz.prog.types.size := of_decide_eq_true (by kernel_rfl)
theorem cm_hash_key : Tryz.prog.keyType 25 = true := by kernel_rfl
theorem cm_hash_wide : (match Tryz.prog.underlying 25 with | some (.array _ _) | some (.struct _) => true | _ => false) = true := by kernel_rfl
set_option maxRecDepth 100000 in
theorem cm_hash_law : WideMaps.KeyLaw Tryz.prog 25 := deep_law_laid cn_laidOut (m := 2) (by omega) cm_hash_row hash_keyAt cm_hash_wide
theorem hash_keyOf (h : List UInt8) (hh : h.length = 32) : ∃ l, keyOf Tryz.prog 25 (.agg (h.map bV).toArray) = some l := by
  obtain ⟨m, hm⟩ : ∃ m, Tryz.prog.types.size = m + 2 := ⟨Tryz.prog.types.size - 2, by have := types_two; omega⟩
  obtain ⟨l, hl⟩ := cm_lits_hash (m + 1) h hh
  have hfo : Value.formed Tryz.prog 25 (.agg (h.map bV).toArray) = true := by
    have c1 : Tryz.prog.cellsOf 25 = 32 := by kernel_rfl
    simp [Value.formed, Tryz.underlying25, c1, hh]
  refine ⟨.string (keyBytes l), ?_⟩
  have e : (Value.agg (h.map bV).toArray).cells.toList = h.map bV := by simp [Value.cells]
  have hl' : Tryz.prog.keyLits (m + 2 + 1) 25 (h.map bV) = some l := hl
  simp only [keyOf, Tryz.underlying25, cm_hash_key, hfo, Bool.and_self, if_true, e, hm, hl', Option.map_some]
end Go.Proofs.YtbgagaaoldjhnaaGreatDoor.Sha

/-
  Digests as keys of maps; rows of one's own beside boxes of other types and beside maps. No conditions.
-/
namespace Go.Proofs.YtbgagaaoldjhnaaGreatDoor.Sha
open Go Go.RowKit
def hK (h : List UInt8) : Value := .agg (h.map bV).toArray
theorem hK_inj (a b : List UInt8) (h : hK a = hK b) : a = b := by
  have h1 := Value.agg.inj h
  have h2 := congrArg Array.toList h1
  exact bV_list_inj h2
theorem own_kpsB {F : Nat → Prop} {w w' : World} {base n size : Nat} {e : TypeId} {v : Value} {xs : List Value} (h : w.ownsRow base e size v n xs) (hk : Kps F w w') (hf : ∀ g, v.ownBlock = some g → F g) : w'.ownsRow base e size v n xs := by
  refine ⟨h.1, ?_⟩
  rcases h.2 with hn | ⟨g, cap, cur, rfl, hb, hg, rest⟩
  · exact .inl hn
  · exact .inr ⟨g, cap, cur, rfl, hb, row_kps hg hk (hf g rfl), rest⟩
theorem own_ne' {w : World} {base n k g : Nat} {T T' : TypeId} {v : Value} {xs : List Value} {cs : Array Value} {fr : Nat × Nat} (h : w.ownsRow base T k v n xs) (hg : w.heap[g]? = some (.cells cs T' fr)) (hT : T ≠ T') : v.ownBlock ≠ some g := fun e => by
  obtain ⟨c, fz, hc⟩ := Lib.ownsRow_kind h g e
  rw [hc] at hg
  exact hT (by cases hg; rfl)
theorem own_nemap {α β : Type} {kf : α → Value} {vf : β → Value} {ok : α → Prop} {w : World} {q : Nat} {L : List (α × β)} (hm : MpAt kf vf ok w q L) {base n k : Nat} {T : TypeId} {v : Value} {xs : List Value} (h : w.ownsRow base T k v n xs) : v.ownBlock ≠ some q := fun e => by
  obtain ⟨c, fz, hc⟩ := Lib.ownsRow_kind h q e
  exact hm.ne hc rfl
end Go.Proofs.YtbgagaaoldjhnaaGreatDoor.Sha
