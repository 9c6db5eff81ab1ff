/-
  Texts of this proof joined into one file: RefPut, BtAll, GoMath, BoFirst, BoWalk, CnAdd, CnBytes, UdMath2, RefMeet, CnTotal, CnLay, CnSt, CnAll, CnSum, CnRefRow, ApPerm, RefCheckBlk, RefHasHash. What each holds, and under which conditions, its own first sentence tells.
-/
import Derived.IntWalk
import Derived.Deep.DeepCutAuto
import Derived.WalkSpells
import Derived.Carry
import Derived.LaidEql
import Derived.Deep.DeepFit
import Derived.Sort.Grow
import Derived.Shelf.SlGeneric
import Derived.Shelf.SlSortCmp.WholeK
import Derived.Lib.BufferRead
import Derived.Maps.OwnSet
import Derived.DeepKeys4
import Derived.Great.BuildSlice
import Derived.Lib.OwnKind
import Derived.Deep.CutBlock
import Derived.Test.YtdhcjaflbfpalaaGreatDoorMh16
import Derived.Test.YtdhcjaflbfpalaaGreatDoorMh08
import Derived.Test.YtdhcjaflbfpalaaGreatDoorMh11
import Derived.Test.YtdhcjaflbfpalaaGreatDoorMh01
import Derived.Test.YtdhcjaflbfpalaaGreatDoorMh10
import Derived.Test.YtdhcjaflbfpalaaGreatDoorMh20
import Derived.Test.YtdhcjaflbfpalaaGreatDoorMh18
import Derived.Test.YtdhcjaflbfpalaaGreatDoorMh09
import Derived.Test.YtdhcjaflbfpalaaGreatDoorMh05
import Derived.Test.YtdhcjaflbfpalaaGreatDoorMh03
import Derived.Test.YtdhcjaflbfpalaaGreatDoorMh04
import Derived.Test.YtdhcjaflbfpalaaGreatDoorMh19
import Derived.Test.YtdhcjaflbfpalaaGreatDoorMh07
/-
  The reference's PutHash: into digests that rise, each once; a new row. Conditions: the row is in its place.
-/
namespace Go.Proofs.YtdhcjaflbfpalaaGreatDoor.Sha
open Go Go.RowKit
def HR (l : List (List UInt8)) : List (List Value) := l.map fun x => x.map bV
theorem HR_flat (l : List (List UInt8)) : (HR l).flatten = hsL l := by unfold HR hsL; rw [List.flatMap_def]
theorem HR_all {l : List (List UInt8)} (h : HsOk l) : AllK 32 (HR l) := fun x hx => by
  obtain ⟨y, hy, rfl⟩ := List.mem_map.1 hx
  rw [List.length_map]
  exact h y hy
theorem hs_rw_own {base : Nat} {w : World} {v : Value} {l : List (List UInt8)} (h : HsOwn base w v l) : RwOwn 32 26 base w v (HR l) := by
  refine ⟨?_, HR_all h.2⟩
  rw [HR_flat]
  have := h.1
  unfold HR
  rw [List.length_map]
  exact this
theorem rw_hs_own {base : Nat} {w : World} {v : Value} {l : List (List UInt8)} (h : RwOwn 32 26 base w v (HR l)) (ho : HsOk l) : HsOwn base w v l := by
  have := h.1
  rw [HR_flat] at this
  unfold HR at this
  rw [List.length_map] at this
  exact ⟨this, ho⟩
theorem hs_rw_at {w : World} {v : Value} {l : List (List UInt8)} (h : HsAt w v l) : RwAt 32 w v (HR l) := by
  obtain ⟨ho, sp, cap, hv, hc, hr⟩ := h
  refine ⟨HR_all ho, sp, cap, by unfold HR; rw [List.length_map]; exact hv, by unfold HR; rw [List.length_map]; exact hc, fun h0 => ?_⟩
  unfold HR at h0
  rw [List.length_map] at h0
  obtain ⟨b, o, hs, hg⟩ := hr h0
  refine ⟨b, o, hs, fun i x hx => ?_⟩
  unfold HR at hx
  rw [List.getElem?_map] at hx
  cases hl : l[i]? with
  | none => rw [hl] at hx; cases hx
  | some y =>
    rw [hl] at hx
    rw [← Option.some.inj hx]
    exact hg i y hl
theorem HR_one (l : List (List UInt8)) : ∀ m ∈ HR l, ∀ u ∈ m, u.oneCell' = true := fun m hm => by
  obtain ⟨y, _, rfl⟩ := List.mem_map.1 hm
  exact bV_one' _
theorem HsOwn.lower {base base' : Nat} {w : World} {v : Value} {l : List (List UInt8)} (h : HsOwn base w v l) (hb : base' ≤ base) : HsOwn base' w v l := ⟨own_base h.1 hb, h.2⟩
end Go.Proofs.YtdhcjaflbfpalaaGreatDoor.Sha

/-
  All that are marked, in the order of digests. Nothing that was there turns. Conditions: the marks lie where the pointer says, over a tree; all together at most a million.
-/
namespace Go.Proofs.YtdhcjaflbfpalaaGreatDoor.Sha
open Go Go.RowKit
def sumU (L : List TNd) (d : IdSet) : Nat := (d.map fun x => (undT L x.1).length).sum
theorem sumU_perm {L : List TNd} {d d' : IdSet} (h : d.Perm d') : sumU L d = sumU L d' := (h.map _).sum_nat
/-- What All answers: how many. -/
def AlP (L : List TNd) (B : IdSet) (w : World) (e : Ending) (w' : World) : Prop :=
  ∃ (v : Value) (l : List (List UInt8)), e = .returned v ∧ HsAt w' v l ∧ l.length = sumU L B ∧ Below w.heap.size w w'
def AlInv (L : List TNd) (B : IdSet) (bm r gi : Nat) (w : World) (wr : World) : Prop :=
  ∃ (dn rest : IdSet) (iv : Value) (acc : List (List UInt8)), IterG hK unV (fun h => h.length = 32) wr bm r rest ∧ (dn ++ rest).Perm B ∧ HsOwn w.heap.size wr iv acc ∧ acc.length = sumU L dn ∧ wr.heap[gi]? = some (.cells #[iv] 52 (0, 0)) ∧ Below w.heap.size w wr
set_option maxHeartbeats 4000000 in
set_option maxRecDepth 100000 in
theorem bkall_any (w : World) (base b tb bm mm tbase tm : Nat) (lv : Value) (B Mt : IdSet) (d : Array Rk) (M : List CNd) (hm : MkAt w base b tb bm mm lv B Mt d) (ht : CtAt w tbase tb tm M) (tr : TrL (ndM M)) (hsum : sumU (ndM M) B ≤ 1048576) :
    Calls Tryz.prog 25 #[(.pointer (some ⟨b, 0, none⟩))] w (AlP (ndM M) B w) := by
  obtain ⟨i0, hi, hz0, hz1, hz2⟩ := info_parts info_hash
  have HM := Lib.hid hm
  have HT := Lib.hid ht
  have TR := Lib.hid tr
  have SB := Lib.hid hsum
  clear hm ht tr hsum
  go_enter Tryz.func25, Tryz.ntmps25
  go_upto_region 2 with fail
  have f0 := heap_alloc_new w (.cells #[.slice none 0 0] 52 (0, 0))
  have bb := (Below.refl w.heap.size w).alloc (Nat.le_refl _) (.cells #[.slice none 0 0] 52 (0, 0))
  generalize hq : World.alloc _ _ = w1
  have eq : w.alloc (.cells #[.slice none 0 0] 52 (0, 0)) = w1 := hq
  rw [eq] at f0 bb
  obtain ⟨gi, hgi⟩ : ∃ gi, gi = w.heap.size := ⟨_, rfl⟩
  have GI : Hid (w.heap.size ≤ gi) := by show _ ≤ _; omega
  rw [← hgi] at f0 ⊢
  have F1 := Lib.hid f0
  have B1 := Lib.hid bb
  clear f0 bb hq eq hgi
  have c1 := cell_below HM.out.cells.2.1 B1.out
  go_wp2_with (at_range; refine wpList_range_g mty_ids rfl (.tmp 8) rfl bm B rfl (HM.out.below B1.out).bad ?_; intro w2 q1 q2 q3; have IT := Lib.hid q1; have C2 := Lib.hid q2; clear q1 q2 q3)
  go_frame
  clear c1
  obtain ⟨r, hr⟩ : ∃ r, r = w1.heap.size := ⟨_, rfl⟩
  rw [← hr] at IT ⊢
  have HR0 : Hid (w.heap.size ≤ r) := by show _ ≤ _; rw [hr]; exact B1.out.size
  have F2 := Lib.hid (row_below F1.out C2.out)
  have B2 := Lib.hid (B1.out.trans (C2.out.mono B1.out.size))
  clear hr F1 B1 C2
  go_loopw [11] (fun v wr => AlInv (ndM M) B bm r gi w wr) (fun _ wr => wr.rangeLeft bm r)
  case atStart => exact ⟨[], B, _, [], IT.out, List.Perm.refl _, HsOwn.nil _ _, rfl, F2.out, B2.out⟩
  case round =>
    clear IT F2 B2
    obtain ⟨dn, rest, iv, acc, hit, hp, ho, hl, hf, hb⟩ := hrel
    have IT := Lib.hid hit
    have PM := Lib.hid hp
    have HO := Lib.hid ho
    have LA := Lib.hid hl
    have FI := Lib.hid hf
    have BB := Lib.hid hb
    have ML := hit.left
    clear hit hp ho hl hf hb
    go_wp2_with (at_next; refine wpList_next_g rfl (.tmp 9) rfl bm r rest rfl IT.out ?_ ?_)
    · intro he
      have E0 := Lib.hid he
      clear he ML
      have ci := cell_of_row _ _ 0 _ _ _ FI.out
      have ci0 : wr.cell? ⟨gi, 0, none⟩ = some iv := by rw [ci]; rfl
      have LS : Hid (acc.length = sumU (ndM M) B) := by
        have h1 := PM.out
        rw [E0.out, List.append_nil] at h1
        show _ = _
        rw [LA.out]
        exact sumU_perm h1
      clear ci
      go_wp2_with fail
      refine (basort_any w.heap.size gi iv acc wr HO.out FI.out (by rw [LS.out]; exact SB.out)).mono ?_
      rintro e w3 ⟨rfl, l', hp2, _, hat, hg, _⟩
      have ci2 : w3.cell? ⟨gi, 0, none⟩ = some iv := by rw [cell_of_row _ _ _ _ _ _ (row_far FI.out hg (own_ne' HO.out.1 FI.out (by decide)))]; rfl
      have PL := Lib.hid hp2
      have AT := Lib.hid hat
      have BE := Lib.hid (own_grown BB.out (Nat.le_refl _) BB.out.size HO.out.1 hg)
      clear hp2 hat hg ci0
      go_wp2_with fail
      go_ret
      exact ⟨iv, l', rfl, AT.out, by rw [PL.out.length_eq, LS.out], BE.out⟩
    · intro xa xb l' w3 hp hx hi3 hg hsz hen
      have PX := Lib.hid hp
      have LX := Lib.hid hx
      have I3 := Lib.hid hi3
      have B3 := Lib.hid (BB.out.grown hg BB.out.size (fun k hk => by cases hk; exact HR0.out))
      have F3 := Lib.hid (row_far FI.out hg (fun e => (IT.out.row FI.out).1 (Option.some.inj e).symm))
      have O3 : Hid (HsOwn w.heap.size w3 iv acc) := ⟨HO.out.1.kept hg (.inr (fun e => by
        obtain ⟨cs, hc⟩ := own_row HO.out.1 e
        exact (IT.out.row hc).1 rfl)), HO.out.2⟩
      have MLT : Hid (rest.length = l'.length + 1) := by show _ = _; rw [hp.length_eq]; rfl
      have SX : Hid ((xa.map bV).toArray.size = 32) := by show _ = _; rw [List.size_toArray, List.length_map]; exact hx
      have AX : Hid ((xa.map bV).toArray.all (·.oneCell') = true) := bV_one _
      have UN : Hid (∀ W, Below w.heap.size w W → Calls Tryz.prog 38 #[(.pointer (some ⟨tb, 0, none⟩)), .agg (xa.map bV).toArray] W (UnPost2 (ndM M) xa W)) := fun W hW => ctunder_own W tbase tb tm M xa (HT.out.below hW) TR.out LX.out
      have SS : Hid (acc.length + (undT (ndM M) xa).length ≤ 1048576) := by
        have h1 := sumU_perm (L := ndM M) (PM.out.symm.trans (PX.out.append_left dn))
        have h2 := SB.out
        have h3 : sumU (ndM M) (dn ++ (xa, xb) :: l') = sumU (ndM M) dn + ((undT (ndM M) xa).length + sumU (ndM M) l') := by unfold sumU; simp
        have h4 := LA.out
        show _ ≤ _
        omega
      have eh : hK xa = Value.agg (xa.map bV).toArray := rfl
      rw [eh] at hen ⊢
      clear eh
      obtain ⟨uv, huv⟩ : ∃ uv, uv = unV xb := ⟨_, rfl⟩
      rw [← huv] at hen ⊢
      obtain ⟨cx, hcx⟩ : ∃ cx, cx = xa.map bV := ⟨_, rfl⟩
      rw [← hcx] at hen SX AX UN ⊢
      clear hp hx hi3 hg hsz hcx huv
      go_upto_region 5 with ((with_reducible show wpList _ _ _ _ _ _); (refine wpList_store_row rfl 26 (.tmp 4) (.tmp 13) rfl w3.heap.size cx.toArray rfl rfl 26 _ (heap_alloc_new _ _) (by rw [SX.out]; kernel_rfl) (by rw [SX.out]; rfl) AX.out ?_; go_frame))
      clear hen
      obtain ⟨_, f2, f3, f4⟩ := fill_setup (Below.refl w3.heap.size w3) (List.replicate 32 (bV 0)).toArray cx.toArray 26
      generalize hqw4 : World.setRow _ _ _ = w4
      have ew4 : World.setRow (w3.alloc (.cells (List.replicate 32 (bV 0)).toArray 26)) w3.heap.size cx.toArray = w4 := hqw4
      rw [ew4] at f2 f3 f4
      obtain ⟨g4, hg4⟩ : ∃ g4, g4 = w3.heap.size := ⟨_, rfl⟩
      rw [← hg4] at f2 ⊢
      have G4 := Lib.hid f2
      have Ng4 : Hid (w3.heap.size ≤ g4) := by show _ ≤ _; rw [hg4]; exact Nat.le_refl _
      have B4 := Lib.hid (B3.out.trans (f4.mono B3.out.size))
      have F4 := Lib.hid (row_below F3.out f4)
      have O4 := Lib.hid (O3.out.keep f4)
      have I4 := Lib.hid (I3.out.below f4)
      clear f2 f3 f4 hqw4 ew4 hg4
      clear B3 F3 O3 I3 Ng4 IT HO FI BB
      refine wp_region_end (fun w' => Below w4.heap.size w4 w') [7, 8] (by kernel_rfl) (Below.drew (Below.refl _ _)) (fun hHeld => ?_)
      generalize hwd : w4.drew = wd at  hHeld ⊢
      clear hwd
      refine end_take (i := 0) (v := iv) rfl (by kernel_rfl) (by kernel_rfl) (by kernel_rfl) (by kernel_rfl) (fun _ _ _ h => h) (yieldsIf_load_one (by rfl) 52 (.tmp 3) rfl gi (0) rfl _ _ (fun w' hw' => by rw [cell_of_row _ _ _ _ _ _ (row_below F4.out hw')]; rfl) Tryz.underlying52 rfl) hHeld ?_
      go_frame
      refine end_take (i := 1) (v := (.pointer (some ⟨b, 0, none⟩))) rfl (by kernel_rfl) (by kernel_rfl) (by kernel_rfl) (by kernel_rfl) (fun _ _ _ h => h) (Or.inl ⟨by rfl, fun w' _ => by kernel_rfl⟩) hHeld ?_
      go_frame
      refine end_take (i := 2) (v := (.pointer (some ⟨b, 0, none⟩))) rfl (by kernel_rfl) (by kernel_rfl) (by kernel_rfl) (by kernel_rfl) (fun _ _ _ h => h) (Or.inl ⟨by rfl, fun w' _ => by kernel_rfl⟩) hHeld ?_
      go_frame
      refine end_take (i := 3) (v := (.pointer (some ⟨b, 0, none⟩))) rfl (by kernel_rfl) (by kernel_rfl) (by kernel_rfl) (by kernel_rfl) (fun _ _ _ h => h) (Or.inl ⟨by rfl, fun w' _ => by kernel_rfl⟩) hHeld ?_
      go_frame
      refine end_take (i := 4) (v := (.pointer (some ⟨tb, 0, none⟩))) rfl (by kernel_rfl) (by kernel_rfl) (by kernel_rfl) (by kernel_rfl) (fun _ _ _ h => h) (yieldsIf_load_one (by rfl) 33 (.tmp 17) rfl b (0) rfl _ _ (fun w' hw' => cell_below HM.out.cells.1 (B4.out.trans (hw'.mono B4.out.size))) Tryz.underlying33 rfl) hHeld ?_
      go_frame
      refine end_take (i := 5) (v := (.agg cx.toArray)) rfl (by kernel_rfl) (by kernel_rfl) (by kernel_rfl) (by kernel_rfl) (fun _ _ _ h => h) (yieldsIf_load_row (by rfl) 26 (.tmp 4) rfl g4 rfl 26 cx.toArray (0, 0) _ (fun w' hw' => row_below G4.out hw') Tryz.underlying26 rfl (by rw [SX.out]; kernel_rfl)) hHeld ?_
      go_frame
      refine end_next (i := 6) (by kernel_rfl) rfl (fun K hK => ?_)
      go_simp
      refine (UN.out _ (B4.out.trans (hHeld.mono B4.out.size))).mono ?_
      rintro e v1 ⟨bb, vs, l, rfl, hat, hp, _, _⟩
      have UA := Lib.hid hat
      have UP := Lib.hid hp
      clear hat hp
      have hv1 := hHeld.trans (bb.mono hHeld.size)
      clear bb hHeld
      go_wp2_with fail
      refine hK.out _ _ hv1 (fun hHeld => ?_)
      clear hK K hv1
      refine end_last (i := 7) (by kernel_rfl) (by kernel_rfl) rfl (fun K hK => ?_)
      rw [if_pos (by rfl)]
      have O5 : Hid (HsOwn w.heap.size v1 iv acc) := O4.out.keep hHeld
      have B5 := Lib.hid (B4.out.trans (hHeld.mono B4.out.size))
      have F5 := Lib.hid (row_below F4.out hHeld)
      have I5 := Lib.hid (I4.out.below hHeld)
      have LB : Hid ((HR acc).length + (HR l).length ≤ 1048576) := by
        show _ ≤ _
        unfold HR
        rw [List.length_map, List.length_map, UP.out.length_eq]
        exact SS.out
      refine wp_append_rw v1 (.tmp 14) (.tmp 20) 52 rfl w.heap.size 26 i0 (.agg (List.replicate 32 (bV 0)).toArray) 32 32 Tryz.underlying52 hi hz0 hz1 hz2 (by kernel_rfl) (by decide) iv (HR acc) rfl (hs_rw_own O5.out) vs (HR l) rfl (hs_rw_at UA.out) (HR_one _) (by have := LB.out; omega) (by have := LB.out; unfold maxLen; omega) B5.out.size ?_
      intro nv v2 q1 q2
      have ON : Hid (HsOwn w.heap.size v2 nv (acc ++ l)) := rw_hs_own (by have h := q1; unfold HR at h ⊢; rw [List.map_append]; exact h) (fun y hy => (List.mem_append.1 hy).elim (O5.out.2 y) (UA.out.1 y))
      have B6 := Lib.hid (own_grown B5.out (Nat.le_refl _) B5.out.size O5.out.1 q2)
      have F6 := Lib.hid (row_far F5.out q2 (own_ne' O5.out.1 F5.out (by decide)))
      have I6 : Hid (IterG Sha.hK unV (fun h => h.length = 32) v2 bm r l') := I5.out.kps (F := fun j => some j ≠ iv.ownBlock) (Kps.grown q2 fun _ _ hf => hf) (fun e => by obtain ⟨cs, hc⟩ := own_row O5.out.1 e.symm; exact (I5.out.row hc).2 rfl) (fun e => by obtain ⟨cs, hc⟩ := own_row O5.out.1 e.symm; exact (I5.out.row hc).1 rfl)
      clear q1 q2 hHeld
      go_frame
      refine hK.out _ _ ?_
      clear hK K
      refine end_last (i := 8) (by kernel_rfl) (by kernel_rfl) rfl (fun K hK => ?_)
      rw [if_pos (by rfl)]
      have ONE : nv.oneCell' = true := own_onev ON.out.1
      refine wp_store_part 52 (.tmp 3) (.tmp 21) rfl gi 0 [] [iv] [] [nv] 52 nv rfl rfl (cells_one ONE) rfl rfl F6.out (by kernel_rfl) (fun u hu => by rw [List.mem_singleton.1 hu]; exact ONE) ?_
      intro v3 q1 q2
      have F7 := Lib.hid q1
      have B7 := Lib.hid (B6.out.grown q2 B6.out.size (fun k hk => by cases hk; exact GI.out))
      have O7 : Hid (HsOwn w.heap.size v3 nv (acc ++ l)) := ⟨ON.out.1.kept q2 (.inr (own_ne' ON.out.1 F6.out (by decide))), ON.out.2⟩
      have I7 : Hid (IterG Sha.hK unV (fun h => h.length = 32) v3 bm r l') := I6.out.kps (F := fun j => j ≠ gi) (Kps.grown q2 fun _ _ hf e => hf (Option.some.inj e)) (fun e => (I6.out.row F6.out).2 e.symm) (fun e => (I6.out.row F6.out).1 e.symm)
      clear q1 q2 ONE
      go_frame
      refine hK.out _ _ ?_
      clear hK K
      refine end_done (by kernel_rfl) ?_ _
      have ML7 := I7.out.left
      go_wp2_with fail
      go_roundw
      case rel =>
        refine ⟨dn ++ [(xa, xb)], l', nv, acc ++ l, I7.out, ?_, O7.out, ?_, F7.out, B7.out⟩
        · rw [List.append_assoc]
          exact (PX.out.symm.append_left dn).trans PM.out
        · have h1 := UP.out.length_eq
          have h2 := LA.out
          unfold sumU at h2 ⊢
          rw [List.length_append, h1, h2, List.map_append, List.sum_append]
          simp
      case measure => rw [ML7, ML, MLT.out]; exact Nat.lt_succ_self _
end Go.Proofs.YtdhcjaflbfpalaaGreatDoor.Sha

/-
  Up to fifteen branches of one block each on the start, a child on each that was marked: what the tree has, which are marked, which is best. Pure. Conditions: works from 1 to 5.
-/
namespace Go.Proofs.YtdhcjaflbfpalaaGreatDoor.Sha
open Go Go.RowKit
def goN (w : Nat → Nat) (i : Nat) : TNd := ⟨goC i (w i), goH i (w i), 0, 1, 1 + w i, false⟩
def goT (w : Nat → Nat) (n : Nat) : List TNd := stT startX.head :: (List.range n).map (goN w)
def goM (w : Nat → Nat) (p : Nat) : TNd := ⟨goK p (w p), goJ p (w p), (p : Int) + 1, 2, 1 + w p + 1000, false⟩
def goG (w : Nat → Nat) (n : Nat) (P : List Nat) : List TNd := goT w n ++ P.map (goM w)
def goO (w : Nat → Nat) (i : Nat) : OH := ⟨goC i (w i), hdId_length _⟩
def WkOk (w : Nat → Nat) : Prop := ∀ i, 1 ≤ w i ∧ w i ≤ 5
section
variable {w : Nat → Nat} {n : Nat} {P Q : List Nat} {B B' : IdSet}
theorem goT_len : (goT w n).length = n + 1 := by simp [goT]
theorem goG_len : (goG w n P).length = n + 1 + P.length := by simp [goG, goT_len]
theorem goG_nil : goG w n [] = goT w n := by simp [goG]
theorem goT_succ : goT w (n + 1) = goT w n ++ [goN w n] := by simp [goT, List.range_succ]
theorem goG_zero : (goG w n P)[0]? = some (stT startX.head) := rfl
theorem goG_br {i : Nat} (hi : i < n) : (goG w n P)[i + 1]? = some (goN w i) := by
  unfold goG
  rw [List.getElem?_append_left (by rw [goT_len]; omega)]
  unfold goT
  rw [List.getElem?_cons_succ, List.getElem?_map, List.getElem?_range hi]
  rfl
theorem goG_kid {t p : Nat} (ht : P[t]? = some p) : (goG w n P)[n + 1 + t]? = some (goM w p) := by
  unfold goG
  rw [List.getElem?_append_right (by rw [goT_len]; omega), goT_len, show n + 1 + t - (n + 1) = t by omega, List.getElem?_map, ht]
  rfl
theorem goG_cases {j : Nat} {x : TNd} (h : (goG w n P)[j]? = some x) : (j = 0 ∧ x = stT startX.head) ∨ (∃ i, i < n ∧ j = i + 1 ∧ x = goN w i) ∨ ∃ t p, P[t]? = some p ∧ j = n + 1 + t ∧ x = goM w p := by
  cases j with
  | zero =>
    rw [goG_zero] at h
    exact Or.inl ⟨rfl, (Option.some.inj h).symm⟩
  | succ i =>
    by_cases hi : i < n
    · rw [goG_br hi] at h
      exact Or.inr (Or.inl ⟨i, hi, rfl, (Option.some.inj h).symm⟩)
    · have hl := (List.getElem?_eq_some_iff.1 h).1
      rw [goG_len] at hl
      obtain ⟨p, hp⟩ : ∃ p, P[i - n]? = some p := ⟨_, List.getElem?_eq_getElem (by omega)⟩
      have h2 := goG_kid (w := w) (n := n) hp
      rw [show n + 1 + (i - n) = i + 1 by omega, h] at h2
      exact Or.inr (Or.inr ⟨i - n, p, hp, by omega, Option.some.inj h2⟩)
theorem nxT_of {L : List TNd} (tr : TrL L) {k : Nat} {x : TNd} (hx : L[k]? = some x) {h : THd} (hp : h.prev = x.id) : nxT L h = ⟨hdId h, h, (k : Int), x.height + 1, (x.work + h.work) % 18446744073709551616, x.bad⟩ := by
  unfold nxT
  rw [hp, findT_id tr hx, getD_int hx]
theorem addE_of {L : List TNd} (tr : TrL L) {k : Nat} {x : TNd} (hx : L[k]? = some x) {h : THd} (hp : h.prev = x.id) (hn : ∀ (j : Nat) (y : TNd), L[j]? = some y → y.id ≠ hdId h) (hl : L.length < 4096) : addE L h = 0 := by
  unfold addE
  rw [findT_none hn, if_neg (by decide), hp, findT_id tr hx, if_neg (by omega), if_neg (by omega)]
/-- The next branch grows. -/
theorem go_next (hw : WkOk w) (hn : n < 15) (tr : TrL (goT w n)) : addE (goT w n) (goH n (w n)) = 0 ∧ nxT (goT w n) (goH n (w n)) = goN w n := by
  have h0 : (goT w n)[0]? = some (stT startX.head) := rfl
  refine ⟨addE_of tr h0 rfl (fun j y hy => ?_) (by rw [goT_len]; omega), ?_⟩
  · rw [← goG_nil] at hy
    rcases goG_cases hy with ⟨_, rfl⟩ | ⟨i, hi, _, rfl⟩ | ⟨t, p, hp, _⟩
    · exact fun e => goC_s hn (hw n).1 (hw n).2 e.symm
    · exact fun e => by have := goC_c (by omega) (hw i).1 (hw i).2 hn (hw n).1 (hw n).2 e; omega
    · cases hp
  · rw [nxT_of tr h0 rfl]
    have e : (1 + w n) % 18446744073709551616 = 1 + w n := Nat.mod_eq_of_lt (by have := (hw n).2; omega)
    show (⟨goC n (w n), goH n (w n), (0 : Nat), 0 + 1, (1 + w n) % 18446744073709551616, false⟩ : TNd) = _
    rw [e]
    rfl
/-- A child grows on a branch. -/
theorem go_child (hw : WkOk w) (hn : n ≤ 15) (hP : P.Nodup) (hlt : ∀ p ∈ P, p < n) (tr : TrL (goG w n P)) {a : Nat} (ha : a < n) (hno : a ∉ P) : addE (goG w n P) (goJ a (w a)) = 0 ∧ nxT (goG w n P) (goJ a (w a)) = goM w a := by
  have hx := goG_br (w := w) (P := P) ha
  have hl : P.length ≤ n := by
    have := sub_len P (List.range n) hP fun p hp => List.mem_range.2 (hlt p hp)
    rwa [List.length_range] at this
  refine ⟨addE_of tr hx rfl (fun j y hy => ?_) (by rw [goG_len]; omega), ?_⟩
  · rcases goG_cases hy with ⟨_, rfl⟩ | ⟨i, hi, _, rfl⟩ | ⟨t, p, hp, _, rfl⟩
    · exact fun e => goK_s (by omega) (hw a).1 (hw a).2 e.symm
    · exact fun e => goK_c (i := a) (by omega) (hw a).1 (hw a).2 (by omega) (hw i).1 (hw i).2 e.symm
    · have hpm := List.mem_of_getElem? hp
      have := hlt p hpm
      exact fun e => by
        have := goK_k (by omega) (hw p).1 (hw p).2 (by omega) (hw a).1 (hw a).2 e
        rw [this] at hpm
        exact hno hpm
  · rw [nxT_of tr hx rfl]
    have e : (1 + w a + 1000) % 18446744073709551616 = 1 + w a + 1000 := Nat.mod_eq_of_lt (by have := (hw a).2; omega)
    show (⟨goK a (w a), goJ a (w a), ((a + 1 : Nat) : Int), 1 + 1, (1 + w a + 1000) % 18446744073709551616, false⟩ : TNd) = _
    rw [e]
    unfold goM
    congr 1
theorem up_zero (tr : TrL (goG w n P)) : upL (goG w n P) 0 = [0] := by
  have h := upL_step tr.down (k := 0) goG_zero
  rw [show (stT startX.head).parent = -1 from rfl, upL_neg (k := -1) (by decide)] at h
  exact h
theorem up_br (tr : TrL (goG w n P)) {i : Nat} (hi : i < n) : upL (goG w n P) ((i + 1 : Nat) : Int) = [((i + 1 : Nat) : Int), 0] := by
  rw [upL_step tr.down (goG_br hi), show (goN w i).parent = 0 from rfl, up_zero tr]
theorem up_kid (tr : TrL (goG w n P)) {t p : Nat} (ht : P[t]? = some p) (hp : p < n) : upL (goG w n P) ((n + 1 + t : Nat) : Int) = [((n + 1 + t : Nat) : Int), ((p + 1 : Nat) : Int), 0] := by
  rw [upL_step tr.down (goG_kid ht), show (goM w p).parent = ((p + 1 : Nat) : Int) from by show (p : Int) + 1 = _; omega, up_br tr hp]
/-- Those of Q are told as marked. -/
def MkS (w : Nat → Nat) (B : IdSet) (Q : List Nat) : Prop := ∀ q, inI B q = true ↔ ∃ p ∈ Q, q = goC p (w p)
theorem MkS.nil : MkS w [] [] := fun q => ⟨fun h => (by cases h), fun ⟨p, hp, _⟩ => (by cases hp)⟩
theorem mk_br (hw : WkOk w) (hn : n ≤ 15) (tr : TrL (goG w n P)) (hu : Hung (goG w n P)) (hB : MkS w B Q) (hlt : ∀ p ∈ Q, p < n) {i : Nat} (hi : i < n) : isM (goG w n P) B (goC i (w i)) = true ↔ i ∈ Q := by
  have hx := goG_br (w := w) (P := P) hi
  have e := isM_at (B := B) tr hu hx
  rw [show (goN w i).id = goC i (w i) from rfl] at e
  rw [e, isU_iff, up_br tr hi]
  constructor
  · rintro ⟨j, hj, h0, h1⟩
    rcases List.mem_cons.1 hj with rfl | hj
    · rw [idAt_at hx] at h1
      obtain ⟨p, hp, e⟩ := (hB _).1 h1
      have := goC_c (by omega) (hw i).1 (hw i).2 (by have := hlt p hp; omega) (hw p).1 (hw p).2 e
      rw [this]; exact hp
    · rw [List.mem_singleton.1 hj] at h0
      omega
  · intro h
    exact ⟨_, List.mem_cons_self, by omega, by rw [idAt_at hx]; exact (hB _).2 ⟨i, h, rfl⟩⟩
theorem mk_kid (tr : TrL (goG w n P)) (hu : Hung (goG w n P)) (hB : MkS w B Q) (hlt : ∀ p ∈ P, p < n) {p : Nat} (hp : p ∈ P) (hq : p ∈ Q) : isM (goG w n P) B (goK p (w p)) = true := by
  obtain ⟨t, ht⟩ := List.getElem?_of_mem hp
  have hx := goG_kid (w := w) (n := n) ht
  have hpn := hlt p hp
  have e := isM_at (B := B) tr hu hx
  rw [show (goM w p).id = goK p (w p) from rfl] at e
  rw [e, isU_iff, up_kid tr ht hpn]
  exact ⟨((p + 1 : Nat) : Int), List.mem_cons_of_mem _ List.mem_cons_self, by omega, by rw [idAt_at (goG_br hpn)]; exact (hB _).2 ⟨p, hq, rfl⟩⟩
theorem stT_id (h : THd) : (stT h).id = hdId h := rfl
theorem bel_cases (tr : TrL (goG w n P)) (hlt : ∀ p ∈ P, p < n) {a j : Nat} (hj : j < (goG w n P).length) (ha : a < n) : belT (goG w n P) (j : Int) ((a + 1 : Nat) : Int) = true ↔ j = a + 1 ∨ ∃ t, P[t]? = some a ∧ j = n + 1 + t := by
  rw [bel_mem]
  obtain ⟨x, hx⟩ := node_at hj
  rcases goG_cases hx with ⟨rfl, _⟩ | ⟨i, hi, rfl, _⟩ | ⟨t, p, hp, rfl, _⟩
  · have e := up_zero tr
    rw [show ((0 : Nat) : Int) = 0 from rfl, e]
    constructor
    · intro h; have := List.mem_singleton.1 h; omega
    · rintro (h | ⟨t, _, h⟩) <;> omega
  · rw [up_br tr hi]
    constructor
    · intro h
      rcases List.mem_cons.1 h with h | h
      · left; omega
      · have := List.mem_singleton.1 h; omega
    · rintro (h | ⟨t, _, h⟩)
      · rw [show i = a by omega]; exact List.mem_cons_self
      · omega
  · have hpn := hlt p (List.mem_of_getElem? hp)
    rw [up_kid tr hp hpn]
    constructor
    · intro h
      rcases List.mem_cons.1 h with h | h
      · omega
      · rcases List.mem_cons.1 h with h | h
        · right
          exact ⟨t, by rw [hp]; congr 1; omega, rfl⟩
        · have := List.mem_singleton.1 h; omega
    · rintro (h | ⟨t', h1, h2⟩)
      · omega
      · have : t' = t := by omega
        rw [this, hp] at h1
        rw [Option.some.inj h1]
        exact List.mem_cons_of_mem _ List.mem_cons_self
theorem und_alone (tr : TrL (goG w n P)) (hlt : ∀ p ∈ P, p < n) {a : Nat} (ha : a < n) (hno : a ∉ P) {q : List UInt8} (h : q ∈ undT (goG w n P) (goC a (w a))) : q = goC a (w a) := by
  have hx := goG_br (w := w) (P := P) ha
  have e0 := findT_id tr hx
  rw [show (goN w a).id = goC a (w a) from rfl] at e0
  unfold undT at h
  rw [e0, if_neg (by omega), Int.toNat_natCast] at h
  unfold idsN at h
  obtain ⟨j, hj, e⟩ := List.mem_map.1 h
  obtain ⟨j1, j2⟩ := sub_mem.1 hj
  rcases (bel_cases tr hlt j1 ha).1 j2 with rfl | ⟨t, ht, _⟩
  · rw [getD_at hx] at e
    exact e.symm
  · exact absurd (List.mem_of_getElem? ht) hno
theorem und_two (tr : TrL (goG w n P)) (hP : P.Nodup) (hlt : ∀ p ∈ P, p < n) {a : Nat} (ha : a ∈ P) : (undT (goG w n P) (goC a (w a))).length = 2 := by
  have han := hlt a ha
  have hx := goG_br (w := w) (P := P) han
  have e0 := findT_id tr hx
  rw [show (goN w a).id = goC a (w a) from rfl] at e0
  obtain ⟨t, ht⟩ := List.getElem?_of_mem ha
  have htl := (List.getElem?_eq_some_iff.1 ht).1
  unfold undT
  rw [e0, if_neg (by omega), Int.toNat_natCast]
  unfold idsN
  rw [List.length_map]
  have hp : (subI (goG w n P) (a + 1)).Perm [a + 1, n + 1 + t] := by
    refine (List.perm_ext_iff_of_nodup (sub_nodup _ _) ?_).2 fun j => ?_
    · simp only [List.nodup_cons, List.mem_singleton, List.not_mem_nil, not_false_eq_true, List.nodup_nil, and_self, and_true]
      omega
    · rw [sub_mem]
      constructor
      · rintro ⟨j1, j2⟩
        rcases (bel_cases tr hlt j1 han).1 j2 with rfl | ⟨t', ht', rfl⟩
        · exact List.mem_cons_self
        · have : t' = t := by
            obtain ⟨h1, h2⟩ := List.getElem?_eq_some_iff.1 ht
            obtain ⟨h3, h4⟩ := List.getElem?_eq_some_iff.1 ht'
            rcases Nat.lt_trichotomy t' t with hl | e | hl
            · exact absurd (h4.trans h2.symm) (List.pairwise_iff_getElem.1 hP t' t h3 h1 hl)
            · exact e
            · exact absurd (h2.trans h4.symm) (List.pairwise_iff_getElem.1 hP t t' h1 h3 hl)
          rw [this]
          exact List.mem_cons_of_mem _ List.mem_cons_self
      · intro h
        have hj : j < (goG w n P).length := by
          rw [goG_len]
          rcases List.mem_cons.1 h with rfl | h
          · omega
          · rw [List.mem_singleton.1 h]; omega
        refine ⟨hj, (bel_cases tr hlt hj han).2 ?_⟩
        rcases List.mem_cons.1 h with rfl | h
        · exact Or.inl rfl
        · exact Or.inr ⟨t, ht, List.mem_singleton.1 h⟩
  rw [hp.length_eq]
  rfl
/-- Another one is marked. -/
theorem MkS.bad (tr : TrL (goG w n P)) (hlt : ∀ p ∈ P, p < n) (hB : MkS w B P) {a : Nat} (ha : a < n) (hno : a ∉ P) {l : List (List UInt8)} (hl : l.Perm (undT (goG w n P) (goC a (w a)))) (hb : BadP B l (goC a (w a)) B') : MkS w B' (P ++ [a]) := fun q => by
  have e : inI B' q = true ↔ q = goC a (w a) ∨ inI B q = true := by
    unfold inI
    rw [hb.get]
    by_cases h1 : q = goC a (w a)
    · rw [if_pos h1]; exact ⟨fun _ => Or.inl h1, fun _ => rfl⟩
    · rw [if_neg h1]
      by_cases h2 : q ∈ l
      · exact absurd (und_alone tr hlt ha hno (hl.mem_iff.1 h2)) h1
      · rw [if_neg h2]
        exact ⟨Or.inr, fun h => h.elim (fun h => absurd h h1) id⟩
  rw [e, hB q]
  constructor
  · rintro (h | ⟨p, hp, h⟩)
    · exact ⟨a, by simp, h⟩
    · exact ⟨p, List.mem_append_left _ hp, h⟩
  · rintro ⟨p, hp, h⟩
    rcases List.mem_append.1 hp with hp | hp
    · exact Or.inr ⟨p, hp, h⟩
    · rw [List.mem_singleton.1 hp] at h
      exact Or.inl h
theorem rnk_br (tr : TrL (goG w n P)) {i : Nat} (hi : i < n) : rnkT (goG w n P) (goO w i) = ⟨1 + w i, goO w i⟩ := by
  have e := ofT_at tr (goG_br (w := w) (P := P) hi)
  unfold rnkT
  rw [show (goO w i).1 = (goN w i).id from rfl, e]
  rfl
theorem found_br (tr : TrL (goG w n P)) {i : Nat} (hi : i < n) : 0 ≤ findT (goG w n P) (goC i (w i)) := by
  have := findT_id tr (goG_br (w := w) (P := P) hi)
  rw [show (goN w i).id = goC i (w i) from rfl] at this
  omega
/-- What the best over those that are not marked yet stands over. -/
def TopS (w : Nat → Nat) (n : Nat) (P : List Nat) (a : Nat) : Prop := ∀ i, i < n → i ∉ P → i ≠ a → overK ⟨1 + w a, goO w a⟩ ⟨1 + w i, goO w i⟩ = true
theorem go_best (hw : WkOk w) (hn : n ≤ 15) (tr : TrL (goG w n P)) (hu : Hung (goG w n P)) (hB : MkS w B P) (hlt : ∀ p ∈ P, p < n) {top : OH} (hb : BestP (goG w n P) B top) : ((∀ i, i < n → i ∈ P) ∧ top.1 = hdId startX.head) ∨ ∃ a, a < n ∧ a ∉ P ∧ top = goO w a ∧ TopS w n P a := by
  have free : ∀ i, i < n → i ∉ P → isM (goG w n P) B (goO w i).1 = false := fun i hi hno => by
    cases h : isM (goG w n P) B (goO w i).1 with
    | false => rfl
    | true => exact absurd ((mk_br hw hn tr hu hB hlt hi).1 h) hno
  obtain ⟨j, x, _, hx, e⟩ := found hb.has
  rcases goG_cases hx with ⟨rfl, rfl⟩ | ⟨i, hi, rfl, rfl⟩ | ⟨t, p, hp, rfl, rfl⟩
  · left
    have e' := e
    rw [stT_id] at e'
    refine ⟨fun i hi => ?_, e'.symm⟩
    by_cases hno : i ∈ P
    · exact hno
    · have hbr := hb.over (goO w i) (found_br tr hi) (free i hi hno)
      rcases hbr with h | h
      · have : goC i (w i) = top.1 := congrArg Subtype.val h
        rw [← e'] at this
        exact absurd this (goC_s (by omega) (hw i).1 (hw i).2)
      · rw [rnk_br tr hi] at h
        have e1 : (rnkT (goG w n P) top).work = 1 := by
          unfold rnkT
          rw [← e, ofT_at tr hx]
          rfl
        unfold overK at h
        rw [e1, if_neg (by have := (hw i).1; show ¬ 1 = 1 + w i; omega)] at h
        have := of_decide_eq_true h
        simp only at this
        omega
  · right
    have et : top = goO w i := Subtype.ext e.symm
    have hno : i ∉ P := fun h => by
      have h1 := (mk_br hw hn tr hu hB hlt hi).2 h
      have h2 := hb.free
      rw [et] at h2
      rw [show (goO w i).1 = goC i (w i) from rfl, h1] at h2
      cases h2
    refine ⟨i, hi, hno, et, fun k hk hnk hne => ?_⟩
    rcases hb.over (goO w k) (found_br tr hk) (free k hk hnk) with h | h
    · rw [et] at h
      have : goC k (w k) = goC i (w i) := congrArg Subtype.val h
      exact absurd (goC_c (by omega) (hw k).1 (hw k).2 (by omega) (hw i).1 (hw i).2 this) hne
    · rw [et, rnk_br tr hi, rnk_br tr hk] at h
      exact h
  · have hpm := List.mem_of_getElem? hp
    have h1 := mk_kid (Q := P) tr hu hB hlt hpm hpm
    have h2 := hb.free
    rw [← e, show (goM w p).id = goK p (w p) from rfl, h1] at h2
    cases h2
theorem go_more (hP : P.Nodup) (hlt : ∀ p ∈ P, p < n) (hl : P.length < n) : ∃ i, i < n ∧ i ∉ P := by
  by_cases h : ∃ i, i < n ∧ i ∉ P
  · exact h
  · have hall : ∀ i ∈ List.range n, i ∈ P := fun i hi => by
      by_cases hm : i ∈ P
      · exact hm
      · exact absurd ⟨i, List.mem_range.1 hi, hm⟩ h
    have := sub_len (List.range n) P List.nodup_range hall
    rw [List.length_range] at this
    omega
theorem go_full (hP : P.Nodup) (hlt : ∀ p ∈ P, p < n) (hl : P.length = n) : ∀ i, i < n → i ∈ P := fun i hi =>
  sub_all P (List.range n) hP (fun p hp => List.mem_range.2 (hlt p hp)) (by rw [List.length_range, hl]; exact Nat.le_refl _) i (List.mem_range.2 hi)
theorem sum_two (tr : TrL (goG w n P)) (hP : P.Nodup) (hlt : ∀ p ∈ P, p < n) (hw : WkOk w) (hn : n ≤ 15) (hB : MkS w B P) (ha : B.Pairwise fun x y => x.1 ≠ y.1) : sumU (goG w n P) B = 2 * P.length := by
  have hp : (B.map (·.1)).Perm (P.map fun p => goC p (w p)) := by
    refine (List.perm_ext_iff_of_nodup ?_ ?_).2 fun q => ?_
    · rw [List.nodup_iff_pairwise_ne, List.pairwise_map]; exact ha
    · rw [List.nodup_iff_pairwise_ne, List.pairwise_map]
      refine (List.nodup_iff_pairwise_ne.1 hP).imp_of_mem fun {a b} hma hmb hne e => hne ?_
      exact goC_c (by have := hlt a hma; omega) (hw a).1 (hw a).2 (by have := hlt b hmb; omega) (hw b).1 (hw b).2 e
    · rw [← inB_iff, hB q, List.mem_map]
      constructor
      · rintro ⟨p, h1, h2⟩; exact ⟨p, h1, h2.symm⟩
      · rintro ⟨p, h1, h2⟩; exact ⟨p, h1, h2.symm⟩
  have e1 : sumU (goG w n P) B = ((B.map (·.1)).map fun q => (undT (goG w n P) q).length).sum := by
    unfold sumU
    rw [List.map_map]
    rfl
  rw [e1, (hp.map _).sum_nat, List.map_map]
  have key : ∀ l : List Nat, (∀ p ∈ l, p ∈ P) → (l.map ((fun q => (undT (goG w n P) q).length) ∘ fun p => goC p (w p))).sum = 2 * l.length := by
    intro l
    induction l with
    | nil => intro _; rfl
    | cons p l ih =>
      intro h
      rw [List.map_cons, List.sum_cons, ih (fun q hq => h q (List.mem_cons_of_mem _ hq))]
      rw [Function.comp_apply, und_two tr hP hlt (h p List.mem_cons_self), List.length_cons]
      omega
  exact key P fun _ h => h
end
end Go.Proofs.YtdhcjaflbfpalaaGreatDoor.Sha

/-
  The laws' own chapter's example: of the start alone it is best, and can't be marked. Nothing that was there turns. Condition: the table of the rounds' words is there.
-/
namespace Go.Proofs.YtdhcjaflbfpalaaGreatDoor.Sha
open Go Go.RowKit
set_option maxHeartbeats 2000000 in
set_option maxRecDepth 100000 in
theorem bofirst_any (w : World) (hk : KTab w) : Calls Tryz.prog 6 #[] w fun e w' => e = .returned (.bool true) ∧ Below w.heap.size w w' := by
  have HK := Lib.hid hk
  clear hk
  go_enter Tryz.func6, Tryz.ntmps6
  go_wp2_with fail
  refine (rstart_any w).mono ?_
  rintro e w1 ⟨v, rfl, hb, bb⟩
  obtain ⟨hh, tv, rfl, _⟩ := hb
  have hf := field_head startX.head hh tv
  have NW := Lib.hid (ctnew_any w1 startX.head hh (HK.out.below bb))
  have TS : Hid (TrL (ndM [⟨stT startX.head, 0, .slice none 0 0⟩])) := stT_tr hh
  have OS := Lib.hid (ofT_start startX.head)
  have LI : Hid ((hdId startX.head).length = 32) := hdId_length _
  obtain ⟨cb, hcb⟩ : ∃ cb, cb = blL startX.head tv := ⟨_, rfl⟩
  rw [← hcb] at hf ⊢
  obtain ⟨cs, hcs⟩ : ∃ cs, cs = hdL startX.head := ⟨_, rfl⟩
  rw [← hcs] at hf NW
  have B1 := Lib.hid bb
  clear bb hh hcb hcs
  go_wp2_with fail
  clear hf
  refine NW.out.mono ?_
  rintro e w2 ⟨tb, tm, g, rfl, hct, bb⟩
  have HT := Lib.hid hct
  have TR : Hid (TrL (ndM [⟨stT startX.head, g, .slice none 0 0⟩])) := TS.out
  have HU : Hid (Hung (ndM [⟨stT startX.head, g, .slice none 0 0⟩])) := fun i x hx hp => by
    cases i with
    | zero => cases hx; exact absurd hp (show ¬ (0 : Int) ≤ -1 by decide)
    | succ i => cases hx
  have B2 := Lib.hid (B1.out.trans (bb.mono B1.out.size))
  have TM := Lib.hid (show tm < w2.heap.size from hct.mp.lt)
  clear hct bb NW TS
  go_wp2_with fail
  refine (bknew_any w2 tb).mono ?_
  rintro e w3 ⟨b, bm, mm, rfl, hm, bb⟩
  have HM := Lib.hid hm
  have HT3 := Lib.hid (HT.out.below bb)
  have B3 := Lib.hid (B2.out.trans (bb.mono B2.out.size))
  have NE : Hid (tm ≠ bm ∧ tm ≠ mm) := ⟨by have := TM.out; have := hm.lo.2.1; omega, by have := TM.out; have := hm.lo.2.2; omega⟩
  have S3 := Lib.hid bb.size
  clear hm bb HT TM
  have BE : Hid (Calls Tryz.prog 18 #[(.pointer (some ⟨b, 0, none⟩))] w3 (BsP w2.heap.size b tb bm mm [] (ndM [⟨stT startX.head, g, .slice none 0 0⟩]) w3)) := bkbest_any w3 w2.heap.size b tb bm mm _ tm _ [] [] #[] _ HM.out (MkI.none _) HT3.out TR.out HU.out NE.out S3.out
  go_wp2_with fail
  refine BE.out.mono ?_
  rintro e w4 ⟨top, lv', Mt', d', rfl, hbp, hma, hmi, hrr⟩
  have TP : Hid (top.1 = hdId startX.head) := best_start hbp
  have HT4 := Lib.hid (HM.out.tree HT3.out NE.out.1 NE.out.2 hrr)
  have HM4 := Lib.hid hma
  have B4 := Lib.hid (B3.out.trans (Below.mono (hrr.old S3.out) B2.out.size))
  have S4 := Lib.hid (Nat.le_trans S3.out hrr.size)
  clear hbp hma hmi hrr HM HT3 B3 BE S3
  have ST : Hid (∀ W, Below w4.heap.size w4 W → Calls Tryz.prog 27 #[(.pointer (some ⟨tb, 0, none⟩))] W fun e w' => e = .returned (.agg ((hdId startX.head).map bV).toArray) ∧ Below W.heap.size W w') := fun W hW => ctstart_any W _ tb tm _ (HT4.out.below hW) TR.out
  have SM : Hid (∀ W, Calls Tryz.prog 17 #[.agg (top.1.map bV).toArray, .agg ((hdId startX.head).map bV).toArray] W (SmPost true W)) := fun W => by
    have h := same_any top.1 (hdId startX.head) top.2 LI.out W
    rw [decide_eq_true TP.out] at h
    exact h
  have BD : Hid (∀ W, Below w4.heap.size w4 W → Calls Tryz.prog 15 #[(.pointer (some ⟨b, 0, none⟩)), .agg ((hdId startX.head).map bV).toArray] W fun e w' => e = .returned (.bool false) ∧ Below w2.heap.size W w') := fun W hW => by
    have h := bkbad_any W w2.heap.size b tb bm mm _ tm lv' [] Mt' d' _ (hdId startX.head) (HM4.out.below hW) (HT4.out.below hW) TR.out LI.out
    refine h.mono ?_
    rintro e w' ⟨B', _, hr, hc⟩
    have e0 : (ofT (ndM [⟨stT startX.head, g, .slice none 0 0⟩]) (hdId startX.head)).2.1 = 0 := by
      have e : ofT (ndM [⟨stT startX.head, g, .slice none 0 0⟩]) (hdId startX.head) = (startX.head, 0, startX.head.work, true) := OS.out
      rw [e]
    have old := hr.old (Nat.le_trans S4.out hW.size)
    rcases hc with ⟨_, rfl, _⟩ | ⟨h1, _⟩
    · exact ⟨rfl, old⟩
    · exact absurd e0 h1
  obtain ⟨ci, hci⟩ : ∃ ci, ci = (hdId startX.head).map bV := ⟨_, rfl⟩
  rw [← hci] at ST SM BD
  obtain ⟨ct, hct⟩ : ∃ ct, ct = top.1.map bV := ⟨_, rfl⟩
  rw [← hct] at SM ⊢
  clear hci hct
  go_wp2_with fail
  refine (ST.out w4 (Below.refl _ _)).mono ?_
  rintro e w5 ⟨rfl, bb⟩
  have C5 := Lib.hid bb
  clear bb
  go_wp2_with fail
  refine (SM.out w5).mono ?_
  rintro e w6 ⟨rfl, bb⟩
  have C6 := Lib.hid (C5.out.trans (bb.mono C5.out.size))
  clear bb C5 SM
  go_wp2_with fail
  refine (ST.out w6 C6.out).mono ?_
  rintro e w7 ⟨rfl, bb⟩
  have C7 := Lib.hid (C6.out.trans (bb.mono C6.out.size))
  clear bb C6 ST
  go_wp2_with fail
  refine (BD.out w7 C7.out).mono ?_
  rintro e w8 ⟨rfl, bb⟩
  have B8 := Lib.hid ((B4.out.trans (C7.out.mono (Nat.le_trans B2.out.size S4.out))).trans (bb.mono B2.out.size))
  clear bb
  go_wp2_with fail
  go_ret
  exact ⟨rfl, B8.out⟩
end Go.Proofs.YtdhcjaflbfpalaaGreatDoor.Sha

/-
  The law that of two blocks one is over the other, and the best over all that are not marked: it answers true. Conditions: the numbers lie where the slice says; three errors and the table of the rounds' words are there.
-/
namespace Go.Proofs.YtdhcjaflbfpalaaGreatDoor.Sha
open Go Go.RowKit
theorem CtAt.lower {w : World} {base base' b mb : Nat} {M : List CNd} (h : CtAt w base b mb M) (hb : base' ≤ base) : CtAt w base' b mb M := by
  refine ⟨h.box, h.mp, h.node, fun i c hc => ⟨⟨(h.kid i c hc).1.1, ?_⟩, (h.kid i c hc).2⟩, h.ne, Nat.le_trans hb h.lo.1, Nat.le_trans hb h.lo.2.1, fun c hc => Nat.le_trans hb (h.lo.2.2 c hc)⟩
  rcases (h.kid i c hc).1.2 with h0 | ⟨g, cap, cur, h1, h2, h3⟩
  · exact .inl h0
  · exact .inr ⟨g, cap, cur, h1, Nat.le_trans hb h2, h3⟩
theorem built_hd3 (v k : Nat) (p : List UInt8) (hp : p.length = 32) : Tryz.prog.built 28 [(0, .int .u32 (v : Int)), (1, .agg (p.map bV).toArray), (4, .int .u32 (k : Int))] = some (hdL ⟨v, p, zH, 0, k, 0⟩).toArray := by
  have hz : ∀ parts, Tryz.prog.built 28 parts = Instr.fill ([(0, 1), (1, 32), (33, 32), (65, 1), (66, 1), (67, 1)].toArray[·]?) ([] ++ ([nV 0] ++ (List.replicate 32 (bV 0) ++ (List.replicate 32 (bV 0) ++ [nV 0, nV 0, nV 0])))).toArray parts := fun parts => by kernel_rfl
  have l1 : (p.map bV).length = 32 := by simp [hp]
  have e0 : hdL ⟨v, p, zH, 0, k, 0⟩ = nV v :: (p.map bV ++ (List.replicate 32 (bV 0) ++ [nV 0, nV k, nV 0])) := rfl
  rw [e0]
  obtain ⟨i, hi⟩ : ∃ i, i = p.map bV := ⟨_, rfl⟩
  rw [← hi] at l1 ⊢
  obtain ⟨Z, hZ⟩ : ∃ Z, Z = List.replicate 32 (bV 0) := ⟨_, rfl⟩
  have lz : Z.length = 32 := by rw [hZ]; rfl
  rw [hz, ← hZ, fill_mid _ 0 0 (.int .u32 (v : Int)) [nV v] [] [nV 0] _ _ rfl rfl rfl rfl, List.nil_append,
    fill_mid _ 1 1 (Value.agg i.toArray) i [nV v] Z _ _ rfl (by rw [l1]; rfl) rfl (by rw [l1, lz])]
  have e3 : [nV v] ++ (i ++ (Z ++ [nV 0, nV 0, nV 0])) = ([nV v] ++ i ++ Z ++ [nV 0]) ++ ([nV 0] ++ [nV 0]) := by simp
  rw [e3, fill_mid _ 4 66 (.int .u32 (k : Int)) [nV k] ([nV v] ++ i ++ Z ++ [nV 0]) [nV 0] _ _ rfl rfl (by simp [l1, lz]) rfl]
  show some _ = some _
  congr 2
  simp
theorem over_found {L : List TNd} (ht : TrL L) {x y : OH} (hx : 0 ≤ findT L x.1) (hy : 0 ≤ findT L y.1) : overL L x y = overK (rnkT L x) (rnkT L y) := by
  obtain ⟨k, a, _, ha, ea⟩ := found hx
  obtain ⟨j, b, _, hb, eb⟩ := found hy
  unfold overL
  rw [← ea, ofT_at ht ha, ← eb, ofT_at ht hb]
  rfl
end Go.Proofs.YtdhcjaflbfpalaaGreatDoor.Sha

/-
  A coin is added to a set: its map turns, or is made. Conditions: the set lies where the pointer says; a place, a coin as the model has them; the errors are there.
-/
namespace Go.Proofs.YtdhcjaflbfpalaaGreatDoor.Sha
open Go Go.RowKit
/-- What a set says to a coin more. -/
def addR (l : List TSp) (p : TPt) (k : TMn) : Nat := if 2100000000000000 < k.val then 5 else if (getC l p).isSome then 6 else 0
end Go.Proofs.YtdhcjaflbfpalaaGreatDoor.Sha

/-
  A coin's bytes, as a set's digest reads them: package coins writes them into new memory; nothing that was there turns. Conditions: a coin as the model has it.
-/
namespace Go.Proofs.YtdhcjaflbfpalaaGreatDoor.Sha
open Go Go.RowKit
/-- A height's 64 bits. -/
def hN (h : Int) : Nat := (h % 18446744073709551616).toNat
end Go.Proofs.YtdhcjaflbfpalaaGreatDoor.Sha

/-
  What a transaction does to a set's coins, as plain mathematics; what was done, step by step; which memory stays while the way turns; which inputs spend. No conditions beyond those that each states.
-/
namespace Go.Proofs.YtdhcjaflbfpalaaGreatDoor.Sha
open Go Go.RowKit
/-- What was done leads from l0 to l. -/
inductive Tr (l0 : List TSp) : List (TSp × Bool) → List TSp → Prop
  | nil : Tr l0 [] l0
  | spend {st : List (TSp × Bool)} {l : List TSp} {p : TPt} {c : TMn} (h : Tr l0 st l) (hc : getC l p = some c) : Tr l0 (st ++ [(⟨p, c⟩, true)]) (delC l p)
  | add {st : List (TSp × Bool)} {l : List TSp} {p : TPt} {c : TMn} (h : Tr l0 st l) (hc : addR l p c = 0) : Tr l0 (st ++ [(⟨p, c⟩, false)]) (l ++ [⟨p, c⟩])
end Go.Proofs.YtdhcjaflbfpalaaGreatDoor.Sha

/-
  The statements' own meet: do two transactions spend one coin? Nothing that was there turns. Conditions: at most a million inputs.
-/
namespace Go.Proofs.YtdhcjaflbfpalaaGreatDoor.Sha
open Go Go.RowKit
theorem any_take {α : Type} {l : List α} {k : Nat} {x : α} (p : α → Bool) (h : l[k]? = some x) : (l.take (k + 1)).any p = ((l.take k).any p || p x) := by
  obtain ⟨h1, rfl⟩ := List.getElem?_eq_some_iff.1 h
  rw [List.take_succ_eq_append_getElem h1, List.any_append]
  simp
theorem any_of_mem {α : Type} {l : List α} {k : Nat} {x : α} {p : α → Bool} (h : l[k]? = some x) (hp : p x = true) : l.any p = true := List.any_eq_true.2 ⟨x, List.mem_of_getElem? h, hp⟩
end Go.Proofs.YtdhcjaflbfpalaaGreatDoor.Sha

/-
  Ranging over a set's map, at the operations; what all coins are worth together. Nothing that was there turns. Conditions: the set lies where the pointer says.
-/
namespace Go.Proofs.YtdhcjaflbfpalaaGreatDoor.Sha
open Go Go.RowKit
/-- How many are still to come, read off the world. -/
def iterLeft (m : Option Nat) (r : Nat) (w : World) : Nat :=
  match m with
  | none => 0
  | some b => w.rangeLeft b r
theorem IterAt.left {w : World} {m : Option Nat} {r : Nat} {rest : List TSp} (h : IterAt w m r rest) : iterLeft m r w = rest.length := by
  cases m with
  | none => rw [show rest = [] from h.1]; rfl
  | some b =>
    obtain ⟨es, clock, since, seen, c0, hb, _, hr, _, _, _, he, _⟩ := h
    have h4 := congrArg List.length he
    simp only [List.length_map, Array.length_toList] at h4
    show w.rangeLeft b r = _
    simp only [World.rangeLeft, hb, hr]
    exact h4
section
variable {ops : Array Oper} {rest : List Oper} {o : Oper} {a : Act} {w : World} {Q : Exit → Act → World → Prop}
end
end Go.Proofs.YtdhcjaflbfpalaaGreatDoor.Sha

/-
  Worlds that only grow: blocks are laid behind, orders drawn; digests and places held against each other do no more. Condition: digests of 32 bytes.
-/
namespace Go.Proofs.YtdhcjaflbfpalaaGreatDoor.Sha
open Go Go.RowKit
open Go.Sort (grow grow_empty grow_grow alloc_eq_grow heap_grow_old size_grow)
/-- w' is w with orders drawn and blocks laid behind. -/
def Lay (w w' : World) : Prop := ∃ q os, w' = grow (w.drewN q) os
theorem Lay.refl (w : World) : Lay w w := ⟨0, #[], by rw [grow_empty]; rfl⟩
theorem Lay.alloc {w w1 : World} (h : Lay w w1) (o : Obj) : Lay w (w1.alloc o) := by
  obtain ⟨q, os, rfl⟩ := h
  exact ⟨q, os ++ #[o], by rw [alloc_eq_grow, grow_grow]⟩
theorem Lay.drewN {w w1 : World} (h : Lay w w1) (n : Nat) : Lay w (w1.drewN n) := by
  obtain ⟨q, os, rfl⟩ := h
  exact ⟨q + n, os, by simp [World.drewN, grow, Nat.add_assoc]⟩
theorem Lay.below {w w' : World} (h : Lay w w') : Below w.heap.size w w' := by
  obtain ⟨q, os, rfl⟩ := h
  exact ⟨rfl, rfl, rfl, by simp [World.drewN], fun k hk => heap_grow_old (w.drewN q) os hk⟩
theorem Lay.trans {w w1 w2 : World} (h : Lay w w1) (k : Lay w1 w2) : Lay w w2 := by
  obtain ⟨q, os, rfl⟩ := h
  obtain ⟨q', os', rfl⟩ := k
  exact ⟨q + q', os ++ os', by simp [World.drewN, grow, Nat.add_assoc, Array.append_assoc]⟩
end Go.Proofs.YtdhcjaflbfpalaaGreatDoor.Sha

/-
  What a set becomes as it is told things: added one by one; a map's block above. No conditions.
-/
namespace Go.Proofs.YtdhcjaflbfpalaaGreatDoor.Sha
open Go Go.RowKit
/-- A map's block is above this one. -/
def HiM (base : Nat) (m : Option Nat) : Prop := ∀ q, m = some q → base ≤ q
theorem HiM.add {base s : Nat} {m m' : Option Nat} (h : HiM base m) (hs : base ≤ s) (hm : m' = m ∨ ∃ b, m' = some b ∧ s ≤ b) : HiM base m' := by
  rcases hm with rfl | ⟨b, rfl, hb⟩
  · exact h
  · intro q e
    cases e
    exact Nat.le_trans hs hb
theorem Below.set {base : Nat} {w0 w w' : World} {a : Nat} {m : Option Nat} (h : Below base w0 w) (hk : Kps (fun j => j ≠ a ∧ m ≠ some j) w w') (ha : base ≤ a) (hm : HiM base m) (hb : base ≤ w.heap.size) : Below base w0 w' :=
  h.trans ⟨hk.os, hk.tape, hk.output, hk.size, fun k hlt => hk.block k (by omega) ⟨by omega, fun e => by have := hm k e; omega⟩⟩
end Go.Proofs.YtdhcjaflbfpalaaGreatDoor.Sha

/-
  All coins of a set with their places, in the places' order: new memory; nothing that was there turns. Conditions: the set lies where the pointer says, at most 2^20 coins.
-/
namespace Go.Proofs.YtdhcjaflbfpalaaGreatDoor.Sha
open Go Go.RowKit
theorem IterAt.grown {w w' : World} {m : Option Nat} {r : Nat} {q : Option Nat} {rest : List TSp} (h : IterAt w m r rest) (hg : w.grownBy w' q) (h1 : q ≠ some r) (h2 : ∀ b, m = some b → q ≠ some b) : IterAt w' m r rest :=
  h.kps (F := fun k => q ≠ some k) (Kps.grown hg fun k _ hk e => hk e.symm) (fun b hb => h2 b hb) h1
end Go.Proofs.YtdhcjaflbfpalaaGreatDoor.Sha

/-
  A set's digest: of all coins' bytes, in the order of their places; nothing that was there turns. Conditions: the set lies where the pointer says, at most 2^20 coins; the table of the rounds' words is there.
-/
namespace Go.Proofs.YtdhcjaflbfpalaaGreatDoor.Sha
open Go Go.RowKit
theorem RwAt.kps {F : Nat → Prop} {k : Nat} {w w' : World} {v : Value} {L : List (List Value)} (h : RwAt k w v L) (hk : Kps F w w') (h0 : 0 < k) (hf : ∀ sp n cap, v = .slice (some sp) n cap → F sp.block) : RwAt k w' v L := by
  obtain ⟨ho, sp, cap, hv, hc, hr⟩ := h
  refine ⟨ho, sp, cap, hv, hc, fun hl => ?_⟩
  obtain ⟨b, o, hs, hx⟩ := hr hl
  refine ⟨b, o, hs, fun i x hi j u hj => ?_⟩
  have h1 := hx i x hi j u hj
  rw [World.cell?_of_block (hk.block b (World.block_lt_of_cell? w _ h1) (hf ⟨b, o, none⟩ L.length cap (by rw [hv, hs])))]
  exact h1
end Go.Proofs.YtdhcjaflbfpalaaGreatDoor.Sha

/-
  The statements' own copy of a row of coins: new memory; a row put behind an own one, whatever stands in either. Nothing that was there turns. Conditions: the coins lie where the slice says, at most 2^20 of them.
-/
namespace Go.Proofs.YtdhcjaflbfpalaaGreatDoor.Sha
open Go Go.RowKit
theorem RwAt.one {k : Nat} {w : World} {g : Nat} {T : TypeId} {fr : Nat × Nat} {x : List Value} (h : w.heap[g]? = some (.cells x.toArray T fr)) (hx : x.length = k) : RwAt k w (.slice (some ⟨g, 0, none⟩) 1 1) [x] := by
  refine ⟨fun y hy => by rw [List.mem_singleton.1 hy]; exact hx, some ⟨g, 0, none⟩, 1, rfl, Nat.le_refl _, fun _ => ⟨g, 0, rfl, fun i y hy => ?_⟩⟩
  match i, hy with
  | 0, hy =>
    simp only [List.getElem?_cons_zero, Option.some.injEq] at hy
    subst hy
    rw [Nat.zero_mul, Nat.zero_add]
    exact range_of_box h
  | i + 1, hy => simp at hy
theorem RwOwn.lower {k : Nat} {T : TypeId} {base base' : Nat} {w : World} {v : Value} {L : List (List Value)} (h : RwOwn k T base w v L) (hb : base' ≤ base) : RwOwn k T base' w v L := ⟨own_base h.1 hb, h.2⟩
end Go.Proofs.YtdhcjaflbfpalaaGreatDoor.Sha

/-
  Putting transactions on asks nothing of the order in which the coins stand. Pure.
-/
namespace Go.Proofs.YtdhcjaflbfpalaaGreatDoor.Sha
open Go Go.RowKit
/-- The same answer, the coins in whatever order. -/
def PL (a b : Except Nat (List TSp)) : Prop := match a, b with | .ok p, .ok q => p.Perm q | .error c, .error d => c = d | _, _ => False
end Go.Proofs.YtdhcjaflbfpalaaGreatDoor.Sha

/-
  The statements' own check of a block: what is amiss first, and where. Nothing that was there turns. Conditions: small transactions, at most a thousand of them.
-/
namespace Go.Proofs.YtdhcjaflbfpalaaGreatDoor.Sha
open Go Go.RowKit
section
variable {x : TBlk}
end
theorem hs_range {w : World} {bh oh n ch : Nat} {l : List (List UInt8)} (h : HsAt w (.slice (some ⟨bh, oh, none⟩) n ch) l) {i : Nat} {a : List UInt8} (ha : l[i]? = some a) : w.rangeAt bh (oh + i * 32) (a.map bV) := by
  obtain ⟨_, sp, cap, hv, _, hr⟩ := h
  cases hv
  obtain ⟨b, o, hs, hr2⟩ := hr (by have := (List.getElem?_eq_some_iff.1 ha).1; omega)
  cases hs
  exact hr2 i a ha
end Go.Proofs.YtdhcjaflbfpalaaGreatDoor.Sha

/-
  The statements' own HasHash: is a digest in a row? Nothing that was there turns. Conditions: a digest of 32 bytes, a length that fits.
-/
namespace Go.Proofs.YtdhcjaflbfpalaaGreatDoor.Sha
open Go Go.RowKit
def HhI (l : List (List UInt8)) (x : List UInt8) (n g3 : Nat) (w : World) (vi : Value) (wr : World) : Prop :=
  ∃ k : Nat, vi = .int .i64 (k : Int) ∧ k ≤ n ∧ ((l.take k).any fun y => decide (y = x)) = false ∧ wr.heap[g3]? = some (.cells (x.map bV).toArray 26 (0, 0)) ∧ Below w.heap.size w wr
set_option maxHeartbeats 2000000 in
set_option maxRecDepth 100000 in
theorem rhashash_any (l : List (List UInt8)) (x : List UInt8) (v : Value) (w : World) (hl : HsAt w v l) (hx : x.length = 32) (hn : l.length ≤ 1048576) :
    Calls Tryz.prog 28 #[v, .agg (x.map bV).toArray] w fun e w' => e = .returned (.bool (l.any fun y => decide (y = x))) ∧ Below w.heap.size w w' := by
  have OKL := Lib.hid hl.1
  obtain ⟨sp, ch, rfl⟩ := hl.shape
  obtain ⟨n, hn1⟩ : ∃ n, n = l.length := ⟨_, rfl⟩
  rw [← hn1] at hl hn ⊢
  have NL := Lib.hid hn1
  have HL := Lib.hid hl
  have XL := Lib.hid hx
  clear hl hn1 hx
  go_enter Tryz.func28, Tryz.ntmps28
  go_upto_region 1 with fail
  have f3 := heap_alloc_new w (.cells (x.map bV).toArray 26 (0, 0))
  have b1 := (Below.refl w.heap.size w).alloc (Nat.le_refl _) (.cells (x.map bV).toArray 26 (0, 0))
  generalize hw1 : World.alloc _ _ = w1
  have e1 : w.alloc (.cells (x.map bV).toArray 26 (0, 0)) = w1 := hw1
  rw [e1] at f3 b1
  obtain ⟨g3, hg3⟩ : ∃ g3, g3 = w.heap.size := ⟨_, rfl⟩
  rw [← hg3] at f3 ⊢
  have F3 := Lib.hid f3
  have B1 := Lib.hid b1
  clear f3 b1 hw1 e1 hg3
  go_wp2_with fail
  go_loopw [5] (fun vi wr => HhI l x n g3 w vi wr) (fun i _ => n - (intOf i).toNat)
  case atStart => exact ⟨0, rfl, Nat.zero_le _, rfl, F3.out, B1.out⟩
  case round =>
    clear F3 B1
    obtain ⟨k, rfl, hk, hin, hf3, hbb⟩ := hrel
    have IN2 := Lib.hid hin
    have F3 := Lib.hid hf3
    have BB := Lib.hid hbb
    clear hin hf3 hbb
    by_cases hlk : k < n
    · have HLK : Hid (k < n) := hlk
      have k0 : (k : Int) < (n : Int) := by omega
      have k1 : 0 ≤ (k : Int) := by omega
      obtain ⟨y, hy⟩ : ∃ y, l[k]? = some y := ⟨_, List.getElem?_eq_getElem (by rw [← NL.out]; exact hlk)⟩
      have YK := Lib.hid hy
      obtain ⟨bh, oh, rfl, _, _⟩ := HL.out.get (by omega)
      have YP : Hid (w.rangeAt bh (oh + k * 32) (y.map bV)) := hs_range HL.out hy
      have Y32 : Hid (y.length = 32) := OKL.out y (List.mem_of_getElem? hy)
      have LY : Hid ((y.map bV).length = 32) := by show _ = _; rw [List.length_map]; exact Y32.out
      have LX : Hid ((x.map bV).toArray.size = 32) := by show _ = _; rw [List.size_toArray, List.length_map]; exact XL.out
      obtain ⟨q, hq⟩ : ∃ q, q = decide (y = x) := ⟨_, rfl⟩
      have QE := Lib.hid hq
      have SH : Hid (∀ W, Calls Tryz.prog 17 #[.agg (y.map bV).toArray, .agg (x.map bV).toArray] W fun e w' => e = .returned (.bool q) ∧ Below W.heap.size W w') := fun W => same_b y x Y32.out XL.out q hq W
      obtain ⟨cx, hcx⟩ : ∃ cx, cx = x.map bV := ⟨_, rfl⟩
      obtain ⟨cy, hcy⟩ : ∃ cy, cy = y.map bV := ⟨_, rfl⟩
      have CX := Lib.hid hcx
      rw [← hcx] at F3 LX SH
      rw [← hcy] at YP LY SH
      clear hy hq hcx hcy
      go_upto_region 4 with fail
      refine wp_region_held_drew (S := (fun w' => Below wr.heap.size wr w')) (by kernel_rfl) (Below.drew (Below.refl _ _)) (fun hHeld => ?_)
      generalize hwd : wr.drew = wd at  hHeld ⊢
      clear hwd
      refine held_take (i := 0) (v := (.slice (some ⟨bh, oh, none⟩) n ch)) rfl (by kernel_rfl) (by kernel_rfl) (by kernel_rfl) (fun _ _ _ h => h) (Or.inl ⟨by rfl, fun w' _ => by kernel_rfl⟩) hHeld ?_
      go_frame
      refine held_take (i := 1) (v := (.int .i64 (k : Int))) rfl (by kernel_rfl) (by kernel_rfl) (by kernel_rfl) (fun _ _ _ h => h) (Or.inl ⟨by rfl, fun w' _ => by kernel_rfl⟩) hHeld ?_
      go_frame
      refine held_take (i := 2) (v := (.pointer (some ⟨bh, oh + k * 32, none⟩))) rfl (by kernel_rfl) (by kernel_rfl) (by kernel_rfl) (fun _ _ _ h => h) (Or.inl ⟨by rfl, fun w' _ => by go_simp⟩) hHeld ?_
      go_frame
      refine held_take (i := 3) (v := (.agg cy.toArray)) rfl (by kernel_rfl) (by kernel_rfl) (by kernel_rfl) (fun _ _ _ h => h) (Sha.yieldsIf_load_mid (by rfl) 26 (.tmp 14) rfl bh (oh + k * 32) rfl cy _ (fun w' hw' => range_below YP.out (BB.out.trans (hw'.mono BB.out.size))) Tryz.underlying26 rfl (by rw [LY.out]; kernel_rfl)) hHeld ?_
      go_frame
      refine held_take (i := 4) (v := (.agg cx.toArray)) rfl (by kernel_rfl) (by kernel_rfl) (by kernel_rfl) (fun _ _ _ h => h) (yieldsIf_load_row (by rfl) 26 (.tmp 3) rfl g3 rfl 26 cx.toArray (0, 0) _ (fun w' hw' => row_below F3.out hw') Tryz.underlying26 rfl (by rw [LX.out]; kernel_rfl)) hHeld ?_
      go_frame
      refine wpAnyH_ready (rs := [5]) (by kernel_rfl) (by simp) (held_cons rfl (fun K hK => ?_) AllReadyH.nil)
      go_simp
      refine (SH.out _).mono ?_
      rintro e v1 ⟨rfl, bb⟩
      have hv1 := hHeld.trans (bb.mono hHeld.size)
      clear bb hHeld
      go_wp2_with fail
      refine hK.out _ _ hv1 (fun hHeld => ?_)
      clear hK K hv1
      refine wpAnyH_done (by kernel_rfl) ?_ _
      have F3 := Lib.hid (row_below F3.out hHeld)
      have BB := Lib.hid (BB.out.trans (hHeld.mono BB.out.size))
      clear hHeld SH
      cases q with
      | true =>
        have RT : Hid ((l.any fun y => decide (y = x)) = true) := any_of_mem YK.out QE.out.symm
        go_wp2_with fail
        go_ret
        exact ⟨by rw [RT.out]; rfl, BB.out⟩
      | false =>
        have AN : Hid (((l.take (k + 1)).any fun y => decide (y = x)) = false) := by
          show _ = _
          rw [any_take _ YK.out, IN2.out, ← QE.out]
          rfl
        go_wp2_with fail
        go_roundw
        case rel => exact ⟨k + 1, by go_num, by have := HLK.out; omega, AN.out, by rw [← CX.out]; exact F3.out, BB.out⟩
        case measure =>
          have := HLK.out
          simp [intOf] <;> omega
    · have k0 : ¬ (k : Int) < (n : Int) := by omega
      have RF : Hid ((l.any fun y => decide (y = x)) = false) := by
        have h := IN2.out
        rwa [List.take_of_length_le (by rw [← NL.out]; omega)] at h
      go_wp2_with fail
      go_ret
      exact ⟨by rw [RF.out]; rfl, BB.out⟩
end Go.Proofs.YtdhcjaflbfpalaaGreatDoor.Sha
