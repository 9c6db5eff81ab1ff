/-
  Texts of this proof joined into one file: CnAdd, CnTotal, ShaCmp, PtLess, PtOrd, CnLay, CnSort. What each holds, and under which conditions, its own first sentence tells.
-/
import Derived.WalkSpells
import Derived.Carry
import Derived.Lib.Bytealg
import Derived.Lib.BytesEntry
import Derived.Sort.Grow
import Derived.Shelf.SlGeneric
import Derived.Shelf.SlSortCmp.WholeK
import Derived.Test.YtlmfchcafhidoaaDoorMg06
import Derived.Test.YtlmfchcafhidoaaDoorMg03
import Derived.Test.YtlmfchcafhidoaaDoorMg04
import Derived.Test.YtlmfchcafhidoaaDoorMg05
/-
  A coin is added to a set: its map turns, or is made. Conditions: the set lies where the pointer says; a place, a coin as the model has them; the errors are there.
-/
namespace Go.Proofs.YtlmfchcafhidoaaDoor.Sha
open Go Go.RowKit
/-- What a set says to a coin more. -/
def addR (l : List TSp) (p : TPt) (k : TMn) : Nat := if 2100000000000000 < k.val then 5 else if (getC l p).isSome then 6 else 0
def addL (l : List TSp) (p : TPt) (k : TMn) : List TSp := if addR l p k = 0 then l ++ [⟨p, k⟩] else l
theorem Kps.trans' {F : Nat → Prop} {w w1 w2 : World} {q : Nat} (h : Kps F w w1) (k : Kps (fun j => j ≠ q) w1 w2) (hq : w.heap.size < q) : Kps F w w2 :=
  ⟨k.os.trans h.os, k.tape.trans h.tape, k.output.trans h.output, Nat.le_trans h.size k.size, fun j hj hf => (k.block j (Nat.lt_of_lt_of_le hj h.size) (by omega)).trans (h.block j hj hf)⟩
set_option maxHeartbeats 2000000 in
set_option maxRecDepth 100000 in
theorem setadd_any (E : Nat → Addr) (w : World) (a : Nat) (m : Option Nat) (l : List TSp) (p : TPt) (k : TMn) (hE : EC w E) (hs : SetAt w a m l) (hp : PtOk p) (hk : MnOk k) :
    Calls Tryd.prog 12 #[.pointer (some ⟨a, 0, none⟩), .agg (ptC p).toArray, .agg (mnL k).toArray] w fun e w' =>
      e = .returned (errV E (addR l p k)) ∧ ∃ m', SetAt w' a m' (addL l p k) ∧ (m' = m ∨ ∃ b, m' = some b ∧ w.heap.size ≤ b) ∧ Kps (fun j => j ≠ a ∧ m ≠ some j) w w' := by
  have HP := Lib.hid hp
  have HK := Lib.hid hk
  have HE := Lib.hid hE
  have KSZ : Hid ((mnL k).toArray.size = 35) := mnL_size hk
  have AR : Hid (addR l p k = if 2100000000000000 < k.val then 5 else if (getC l p).isSome then 6 else 0) := rfl
  have AL : Hid (addL l p k = if addR l p k = 0 then l ++ [⟨p, k⟩] else l) := rfl
  have GN : Hid ((getC l p).isSome = false → getC l p = none) := getC_opt
  obtain ⟨ck, hck⟩ : ∃ ck, ck = mnL k := ⟨_, rfl⟩
  rw [← hck] at KSZ ⊢
  obtain ⟨r, hr⟩ : ∃ r, r = addR l p k := ⟨_, rfl⟩
  obtain ⟨l', hl'⟩ : ∃ l', l' = addL l p k := ⟨_, rfl⟩
  rw [← hr] at AR AL
  rw [← hl'] at AL
  rw [← hr, ← hl']
  have CKK := Lib.hid hck
  clear hr hl' hck
  have HS := Lib.hid hs
  have PSZ : Hid ((ptC p).toArray.size = 33) := ptC_size hp
  have CK : Hid (MnOk ((getC l p).getD mnZ)) := getD_ok hs.map.ok p
  obtain ⟨c, hc⟩ : ∃ c, c = (getC l p).getD mnZ := ⟨_, rfl⟩
  obtain ⟨b, hb⟩ : ∃ b, b = (getC l p).isSome := ⟨_, rfl⟩
  rw [← hc] at CK
  have LK : Hid (∀ W, Below w.heap.size w W → (Instr.lookup 30 (.map m) (.agg (ptC p).toArray) true).run Tryd.prog W = .ok (.tuple #[.agg (mnL c).toArray, .bool b]) W) := fun W hW => by
    rw [hc, hb]
    exact map_look (hs.below hW).map p hp
  rw [← hb] at GN AR
  have CSZ : Hid ((mnL c).toArray.size = 35) := mnL_size CK.out
  have CLN : Hid ((mnL c).length = 35) := mnL_length CK.out
  have CONE : Hid ((mnL c).toArray.all (·.oneCell') = true) := mnL_all c
  obtain ⟨cm, hcm⟩ : ∃ cm, cm = mnL c := ⟨_, rfl⟩
  obtain ⟨cp, hcp⟩ : ∃ cp, cp = ptC p := ⟨_, rfl⟩
  rw [← hcm] at LK CSZ CLN CONE
  rw [← hcp] at LK PSZ ⊢
  have CP := Lib.hid hcp
  clear hE hk hs hp hc hb hcm hcp
  obtain ⟨z, hz⟩ : ∃ z, z = k.val := ⟨_, rfl⟩
  have ZV := Lib.hid hz
  rw [← hz] at AR
  have KC : Hid (∀ (W : World) (g : Nat), W.heap[g]? = some (.cells ck.toArray 39 (0, 0)) → W.cell? ⟨g, 0, none⟩ = some (.int .u64 (z : Int))) := fun W g h => by
    rw [cell_of_row _ _ _ _ _ _ h, CKK.out, hz]
    rfl
  clear hz
  go_enter Tryd.func12, Tryd.ntmps12
  go_upto_region 1 with fail
  have f3 := row_below (heap_alloc_new w (.cells cp.toArray 27 (0, 0))) ((Below.refl _ _).alloc (Nat.le_refl _) (.cells ck.toArray 39 (0, 0)))
  have f4 := heap_alloc_new (w.alloc (.cells cp.toArray 27 (0, 0))) (.cells ck.toArray 39 (0, 0))
  have b0 := ((Below.refl w.heap.size w).alloc (Nat.le_refl _) (.cells cp.toArray 27 (0, 0))).alloc (by simp) (.cells ck.toArray 39 (0, 0))
  rw [World.size_alloc] at f4
  generalize hw1 : World.alloc _ _ = w1
  have e1 : (w.alloc (.cells cp.toArray 27 (0, 0))).alloc (.cells ck.toArray 39 (0, 0)) = w1 := hw1
  rw [e1] at f3 f4 b0
  obtain ⟨g3, hg3⟩ : ∃ g3, g3 = w.heap.size := ⟨_, rfl⟩
  have G3 : Hid (w.heap.size ≤ g3) := by show _ ≤ _; rw [hg3]; exact Nat.le_refl _
  rw [← hg3] at f3 f4 ⊢
  have F3 := Lib.hid f3
  have F4 := Lib.hid f4
  have B0 := Lib.hid b0
  have HS1 := Lib.hid (HS.out.below b0)
  have LK1 : Hid (∀ W, Below w1.heap.size w1 W → (Instr.lookup 30 (.map m) (.agg cp.toArray) true).run Tryd.prog W = .ok (.tuple #[.agg cm.toArray, .bool b]) W) := fun W hW => LK.out W (B0.out.trans (hW.mono B0.out.size))
  have z0 := KC.out w1 _ f4
  have cv : w1.cell? ⟨0, 0, none⟩ = some (.iface 142 (.pointer (some (E 4)))) := (HE.out.below b0).value
  clear f3 f4 b0 hw1 e1 hg3
  by_cases hv : 2100000000000000 < z
  · have hv' : (2100000000000000 : Int) < (z : Int) := by omega
    have HV := Lib.hid hv
    clear hv
    go_wp2_with fail
    go_ret
    have er : r = 5 := by rw [AR.out, if_pos HV.out]
    have el : l' = l := by rw [AL.out, er]; rfl
    subst er el
    exact ⟨rfl, m, HS1.out, .inl rfl, Kps.new B0.out⟩
  · have hv' : ¬ (2100000000000000 : Int) < (z : Int) := by omega
    have HV := Lib.hid hv
    clear hv
    go_upto_region 3 with fail
    clear z0 cv hv'
    refine wp_region_held_drew (S := (fun w' => Below w1.heap.size w1 w')) (by kernel_rfl) (Below.drew (Below.refl _ _)) (fun hHeld => ?_)
    generalize hwd : w1.drew = wd at  hHeld ⊢
    clear hwd
    refine held_take (i := 0) (v := (.pointer (some ⟨a, 0, none⟩))) rfl (by kernel_rfl) (by kernel_rfl) (by kernel_rfl) (fun _ _ _ h => h) (Or.inl ⟨by rfl, fun w' _ => by kernel_rfl⟩) hHeld ?_
    go_frame
    refine held_take (i := 1) (v := (.pointer (some ⟨a, 0, none⟩))) rfl (by kernel_rfl) (by kernel_rfl) (by kernel_rfl) (fun _ _ _ h => h) (Or.inl ⟨by rfl, fun w' _ => by kernel_rfl⟩) hHeld ?_
    go_frame
    refine held_take (i := 2) (v := (.pointer (some ⟨a, 0, none⟩))) rfl (by kernel_rfl) (by kernel_rfl) (by kernel_rfl) (fun _ _ _ h => h) (Or.inl ⟨by rfl, fun w' _ => by kernel_rfl⟩) hHeld ?_
    go_frame
    refine held_take (i := 3) (v := (.map m)) rfl (by kernel_rfl) (by kernel_rfl) (by kernel_rfl) (fun _ _ _ h => h) (yieldsIf_load_one (by rfl) 30 (.tmp 16) rfl a (0) rfl _ _ (fun w' hw' => (HS1.out.below hw').cell) Tryd.underlying30 rfl) hHeld ?_
    go_frame
    refine held_take (i := 4) (v := (.agg cp.toArray)) rfl (by kernel_rfl) (by kernel_rfl) (by kernel_rfl) (fun _ _ _ h => h) (yieldsIf_load_row (by rfl) 27 (.tmp 4) rfl g3 rfl 27 cp.toArray (0, 0) _ (fun w' hw' => row_below F3.out hw') Tryd.underlying27 rfl (by rw [PSZ.out]; kernel_rfl)) hHeld ?_
    go_frame
    refine held_take (i := 5) (v := (.tuple #[.agg cm.toArray, .bool b])) rfl (by kernel_rfl) (by kernel_rfl) (by kernel_rfl) (fun _ _ _ h => h) (yieldsIf_lookup (by rfl) 30 (.tmp 17) (.tmp 18) true rfl _ _ _ rfl rfl (fun w' hw' => LK1.out w' hw')) hHeld ?_
    go_frame
    refine held_take (i := 6) (v := (.tuple #[.agg cm.toArray, .bool b])) rfl (by kernel_rfl) (by kernel_rfl) (by kernel_rfl) (fun _ _ _ h => h) (Or.inl ⟨by rfl, fun w' _ => by kernel_rfl⟩) hHeld ?_
    go_frame
    refine held_take (i := 7) (v := (.agg cm.toArray)) rfl (by kernel_rfl) (by kernel_rfl) (by kernel_rfl) (fun _ _ _ h => h) (Or.inl ⟨by rfl, fun w' _ => by kernel_rfl⟩) hHeld ?_
    go_frame
    refine held_take (i := 8) (v := (.bool b)) rfl (by kernel_rfl) (by kernel_rfl) (by kernel_rfl) (fun _ _ _ h => h) (Or.inl ⟨by rfl, fun w' _ => by kernel_rfl⟩) hHeld ?_
    go_frame
    refine wpAnyH_ready (rs := [9]) (by kernel_rfl) (by simp) (held_cons rfl (fun K hK => ?_) AllReadyH.nil)
    go_simp
    have nf := heap_alloc_new wd (.cells (mnL mnZ).toArray 39 (0, 0))
    have bb := (Below.refl wd.heap.size wd).alloc (Nat.le_refl _) (.cells (mnL mnZ).toArray 39 (0, 0))
    obtain ⟨gv1, hgv1⟩ : ∃ g, g = wd.heap.size := ⟨_, rfl⟩
    have GF6 : Hid (w1.heap.size ≤ gv1) := by show _ ≤ _; rw [hgv1]; exact hHeld.size
    generalize hqv1 : World.alloc _ _ = v1
    have ev1 : wd.alloc (.cells (mnL mnZ).toArray 39 (0, 0)) = v1 := hqv1
    rw [ev1] at nf bb
    rw [← hgv1] at nf ⊢
    have F6 := Lib.hid nf
    have hv1 := hHeld.trans (bb.mono hHeld.size)
    clear nf bb hqv1 ev1 hgv1 hHeld
    refine hK.out _ _ hv1 (fun hHeld => ?_)
    clear hK K hv1
    refine wpAnyH_ready (rs := [10]) (by kernel_rfl) (by simp) (held_cons rfl (fun K hK => ?_) AllReadyH.nil)
    rw [if_pos (by rfl)]
    refine wp_store_whole 39 (.tmp 7) (.tmp 20) rfl gv1 (mnL mnZ) cm 39 rfl rfl (by rw [mnL_length mnZ_ok, CLN.out]) F6.out (by rw [CLN.out]; kernel_rfl) (CONE.out) ?_
    intro v2 q1 q2
    have F6 := Lib.hid q1
    have hv2 := hHeld.grown q2 hHeld.size (fun k hk => by cases hk; exact GF6.out)
    clear q1 q2 hHeld
    go_frame
    refine hK.out _ _ hv2 (fun hHeld => ?_)
    clear hK K hv2
    refine held_take (i := 11) (v := (.bool b)) rfl (by kernel_rfl) (by kernel_rfl) (by kernel_rfl) (fun _ _ _ h => h) (Or.inl ⟨by rfl, fun w' _ => by kernel_rfl⟩) hHeld ?_
    go_frame
    refine wpAnyH_done (by kernel_rfl) ?_ _
    obtain ⟨v9, hv9⟩ : ∃ v9, v9 = v2 := ⟨_, rfl⟩
    rw [← hv9] at F6 hHeld ⊢
    clear hv9
    have B1 := Lib.hid (B0.out.trans (hHeld.mono B0.out.size))
    have F4 := Lib.hid (row_below F4.out hHeld)
    have F3 := Lib.hid (row_below F3.out hHeld)
    have HS2 := Lib.hid (HS1.out.below hHeld)
    clear hHeld
    cases b with
    | true =>
      have ct : v9.cell? ⟨1, 0, none⟩ = some (.iface 142 (.pointer (some (E 5)))) := (HE.out.below B1.out).twice
      go_wp2_with fail
      go_ret
      have er : r = 6 := by rw [AR.out, if_neg HV.out]; rfl
      have el : l' = l := by rw [AL.out, er]; rfl
      subst er el
      exact ⟨rfl, m, HS2.out, .inl rfl, Kps.new B1.out⟩
    | false =>
      have er : r = 0 := by rw [AR.out, if_neg HV.out]; rfl
      have el : l' = l ++ [⟨p, k⟩] := by rw [AL.out, er]; rfl
      subst er el
      have AL2 : Hid (a < w.heap.size) := (Array.getElem?_eq_some_iff.1 HS.out.box).1
      have GS : Hid (w.heap.size < v9.heap.size) := Nat.lt_of_le_of_lt G3.out (Array.getElem?_eq_some_iff.1 F3.out).1
      have cb := HS2.out.cell
      have qn : ∀ (W : World) (q : Option Nat), (binOp .eql 30 (.map q) (.map none)).run Tryd.prog W = .ok (.bool q.isNone) W := fun W q => run_eql_map_nil W _ _ _ q map_under
      cases m with
      | some q =>
        have QL : Hid (q < w.heap.size) := HS.out.map.lt q rfl
        have AQ : Hid (a ≠ q) := fun e => HS2.out.ne (by rw [e])
        have Q3 : Hid (g3 ≠ q) := by have := QL.out; have := G3.out; show g3 ≠ q; omega
        have Q4 : Hid (g3 + 1 ≠ q) := by have := QL.out; have := G3.out; show g3 + 1 ≠ q; omega
        have MA : Hid (MapAt v9 q l) := HS2.out.map
        have BX := Lib.hid HS2.out.box
        have K0 : Hid (Kps (fun j => j ≠ a ∧ some q ≠ some j) w v9) := Kps.new B1.out
        go_upto_region 8 with fail
        clear cb qn
        refine wp_region_held_drew (S := (fun w' => Kps (fun j => j ≠ q) v9 w')) (by kernel_rfl) (Kps.new (Below.drew (Below.refl _ _))) (fun hHeld => ?_)
        have MA := Lib.hid (MA.out.kps (F := fun _ => True) (Kps.new (Below.drew (Below.refl _ _))) trivial)
        generalize hwd : v9.drew = wd at MA hHeld ⊢
        clear hwd
        refine held_take (i := 0) (v := (.pointer (some ⟨a, 0, none⟩))) rfl (by kernel_rfl) (by kernel_rfl) (by kernel_rfl) (fun _ _ _ h => h) (Or.inl ⟨by rfl, fun w' _ => by kernel_rfl⟩) hHeld ?_
        go_frame
        refine held_take (i := 1) (v := (.pointer (some ⟨a, 0, none⟩))) rfl (by kernel_rfl) (by kernel_rfl) (by kernel_rfl) (fun _ _ _ h => h) (Or.inl ⟨by rfl, fun w' _ => by kernel_rfl⟩) hHeld ?_
        go_frame
        refine held_take (i := 2) (v := (.pointer (some ⟨a, 0, none⟩))) rfl (by kernel_rfl) (by kernel_rfl) (by kernel_rfl) (fun _ _ _ h => h) (Or.inl ⟨by rfl, fun w' _ => by kernel_rfl⟩) hHeld ?_
        go_frame
        refine held_take (i := 3) (v := (.map (some q))) rfl (by kernel_rfl) (by kernel_rfl) (by kernel_rfl) (fun _ _ _ h => h) (yieldsIf_load_one (by rfl) 30 (.tmp 35) rfl a (0) rfl _ _ (fun w' hw' => by rw [cell_of_row _ _ _ _ _ _ (row_kps BX.out hw' AQ.out)]; rfl) Tryd.underlying30 rfl) hHeld ?_
        go_frame
        refine held_take (i := 4) (v := (.agg cp.toArray)) rfl (by kernel_rfl) (by kernel_rfl) (by kernel_rfl) (fun _ _ _ h => h) (yieldsIf_load_row (by rfl) 27 (.tmp 4) rfl g3 rfl 27 cp.toArray (0, 0) _ (fun w' hw' => row_kps F3.out hw' Q3.out) Tryd.underlying27 rfl (by rw [PSZ.out]; kernel_rfl)) hHeld ?_
        go_frame
        refine held_take (i := 5) (v := (.agg ck.toArray)) rfl (by kernel_rfl) (by kernel_rfl) (by kernel_rfl) (fun _ _ _ h => h) (yieldsIf_load_row (by rfl) 39 (.tmp 5) rfl (g3 + 1) rfl 39 ck.toArray (0, 0) _ (fun w' hw' => row_kps F4.out hw' Q4.out) Tryd.underlying39 rfl (by rw [KSZ.out]; kernel_rfl)) hHeld ?_
        go_frame
        refine wpAnyH_ready (rs := [6]) (by kernel_rfl) (by simp) (held_cons rfl (fun K hK => ?_) AllReadyH.nil)
        rw [if_pos (by rfl)]
        refine wp_put_cn (.tmp 36) (.tmp 37) (.tmp 38) rfl q l p HP.out k HK.out (GN.out rfl) rfl (by rw [← CP.out]; rfl) (by rw [← CKK.out]; rfl) MA.out ?_
        intro v1 q1 q2
        have MB := Lib.hid q1
        have hv1 : Kps (fun j => j ≠ q) v9 v1 := hHeld.trans (Kps.grown q2 fun j _ hj e => hj (Option.some.inj e))
        clear q1 q2 hHeld MA
        go_frame
        refine hK.out _ _ hv1 (fun hHeld => ?_)
        clear hK K hv1
        refine wpAnyH_done (by kernel_rfl) ?_ _
        have BY := Lib.hid (row_kps BX.out hHeld AQ.out)
        have HH := Lib.hid hHeld
        clear hHeld
        go_wp2_with fail
        go_ret
        exact ⟨rfl, some q, ⟨BY.out, MB.out⟩, .inl rfl, (Kps.new B1.out).trans (HH.out.mono fun j _ hj e => hj.2 (by rw [e]))⟩
      | none =>
        obtain rfl : l = [] := HS.out.map
        have hmm := @run_makeMap Tryd.prog
        have bx := row_below HS2.out.box ((Below.refl _ _).alloc (Nat.le_refl _) (.map #[] 0))
        have ma := map_made v9
        have b9 := (Below.refl v9.heap.size v9).alloc (Nat.le_refl _) (.map #[] 0)
        have BX0 := Lib.hid bx
        have MA0 := Lib.hid ma
        have B9 := Lib.hid b9
        clear bx ma b9
        go_upto_region 8 with ((with_reducible show wpList _ _ _ _ _ _); refine wpList_store_part rfl 30 (.tmp 32) (.tmp 30) rfl a 0 [] [.map none] [] [.map (some v9.heap.size)] 32 (.map (some v9.heap.size)) rfl rfl rfl rfl rfl BX0.out (by kernel_rfl) (by simp [Value.oneCell']) ?_; intro w5 q1 q2; have Q1 := Lib.hid q1; have Q2 := Lib.hid q2; clear q1 q2; go_frame)
        clear cb qn hmm
        obtain ⟨q, hq⟩ : ∃ q, q = v9.heap.size := ⟨_, rfl⟩
        rw [← hq] at Q1 MA0
        have QL : Hid (w.heap.size < q) := by show _ < _; rw [hq]; exact GS.out
        have AQ : Hid (a ≠ q) := by have := AL2.out; have := QL.out; show a ≠ q; omega
        have Q3 : Hid (g3 ≠ q) := by have := (Array.getElem?_eq_some_iff.1 F3.out).1; show g3 ≠ q; omega
        have Q4 : Hid (g3 + 1 ≠ q) := by have := (Array.getElem?_eq_some_iff.1 F4.out).1; show g3 + 1 ≠ q; omega
        have KA : Hid (Kps (fun j => j ≠ a) v9 w5) := (Kps.new B9.out).trans (Kps.grown Q2.out fun j _ hj e => hj (Option.some.inj e))
        have MA : Hid (MapAt w5 q []) := MA0.out.kps (F := fun j => j ≠ a) (Kps.grown Q2.out fun j _ hj e => hj (Option.some.inj e)) (fun e => AQ.out e.symm)
        have BX : Hid (w5.heap[a]? = some (.cells #[.map (some q)] 32 (0, 0))) := Q1.out
        have F3 := Lib.hid (row_kps F3.out KA.out (by have := AL2.out; have := G3.out; show g3 ≠ a; omega))
        have F4 := Lib.hid (row_kps F4.out KA.out (by have := AL2.out; have := G3.out; show g3 + 1 ≠ a; omega))
        have V5 : Hid (w.heap.size ≤ v9.heap.size) := Nat.le_of_lt GS.out
        clear hq Q1 Q2 BX0 MA0
        refine wp_region_held_drew (S := (fun w' => Kps (fun j => j ≠ q) w5 w')) (by kernel_rfl) (Kps.new (Below.drew (Below.refl _ _))) (fun hHeld => ?_)
        have MA := Lib.hid (MA.out.kps (F := fun _ => True) (Kps.new (Below.drew (Below.refl _ _))) trivial)
        generalize hwd : w5.drew = wd at MA hHeld ⊢
        clear hwd
        refine held_take (i := 0) (v := (.pointer (some ⟨a, 0, none⟩))) rfl (by kernel_rfl) (by kernel_rfl) (by kernel_rfl) (fun _ _ _ h => h) (Or.inl ⟨by rfl, fun w' _ => by kernel_rfl⟩) hHeld ?_
        go_frame
        refine held_take (i := 1) (v := (.pointer (some ⟨a, 0, none⟩))) rfl (by kernel_rfl) (by kernel_rfl) (by kernel_rfl) (fun _ _ _ h => h) (Or.inl ⟨by rfl, fun w' _ => by kernel_rfl⟩) hHeld ?_
        go_frame
        refine held_take (i := 2) (v := (.pointer (some ⟨a, 0, none⟩))) rfl (by kernel_rfl) (by kernel_rfl) (by kernel_rfl) (fun _ _ _ h => h) (Or.inl ⟨by rfl, fun w' _ => by kernel_rfl⟩) hHeld ?_
        go_frame
        refine held_take (i := 3) (v := (.map (some q))) rfl (by kernel_rfl) (by kernel_rfl) (by kernel_rfl) (fun _ _ _ h => h) (yieldsIf_load_one (by rfl) 30 (.tmp 35) rfl a (0) rfl _ _ (fun w' hw' => by rw [cell_of_row _ _ _ _ _ _ (row_kps BX.out hw' AQ.out)]; rfl) Tryd.underlying30 rfl) hHeld ?_
        go_frame
        refine held_take (i := 4) (v := (.agg cp.toArray)) rfl (by kernel_rfl) (by kernel_rfl) (by kernel_rfl) (fun _ _ _ h => h) (yieldsIf_load_row (by rfl) 27 (.tmp 4) rfl g3 rfl 27 cp.toArray (0, 0) _ (fun w' hw' => row_kps F3.out hw' Q3.out) Tryd.underlying27 rfl (by rw [PSZ.out]; kernel_rfl)) hHeld ?_
        go_frame
        refine held_take (i := 5) (v := (.agg ck.toArray)) rfl (by kernel_rfl) (by kernel_rfl) (by kernel_rfl) (fun _ _ _ h => h) (yieldsIf_load_row (by rfl) 39 (.tmp 5) rfl (g3 + 1) rfl 39 ck.toArray (0, 0) _ (fun w' hw' => row_kps F4.out hw' Q4.out) Tryd.underlying39 rfl (by rw [KSZ.out]; kernel_rfl)) hHeld ?_
        go_frame
        refine wpAnyH_ready (rs := [6]) (by kernel_rfl) (by simp) (held_cons rfl (fun K hK => ?_) AllReadyH.nil)
        rw [if_pos (by rfl)]
        refine wp_put_cn (.tmp 36) (.tmp 37) (.tmp 38) rfl q [] p HP.out k HK.out (GN.out rfl) rfl (by rw [← CP.out]; rfl) (by rw [← CKK.out]; rfl) MA.out ?_
        intro v1 q1 q2
        have MB := Lib.hid q1
        have hv1 : Kps (fun j => j ≠ q) w5 v1 := hHeld.trans (Kps.grown q2 fun j _ hj e => hj (Option.some.inj e))
        clear q1 q2 hHeld MA
        go_frame
        refine hK.out _ _ hv1 (fun hHeld => ?_)
        clear hK K hv1
        refine wpAnyH_done (by kernel_rfl) ?_ _
        have BY := Lib.hid (row_kps BX.out hHeld AQ.out)
        have HH := Lib.hid hHeld
        clear hHeld
        go_wp2_with fail
        go_ret
        exact ⟨rfl, some q, ⟨BY.out, MB.out⟩, .inr ⟨q, rfl, Nat.le_of_lt QL.out⟩, ((Kps.new B1.out).trans (KA.out.mono fun j _ hj => hj)).trans' HH.out QL.out⟩
end Go.Proofs.YtlmfchcafhidoaaDoor.Sha

/-
  Ranging over a set's map, at the operations; what all coins are worth together. Nothing that was there turns. Conditions: the set lies where the pointer says.
-/
namespace Go.Proofs.YtlmfchcafhidoaaDoor.Sha
open Go Go.RowKit
/-- How many are still to come, read off the world. -/
def iterLeft (m : Option Nat) (r : Nat) (w : World) : Nat :=
  match m with
  | none => 0
  | some b => w.rangeLeft b r
theorem IterAt.left {w : World} {m : Option Nat} {r : Nat} {rest : List TSp} (h : IterAt w m r rest) : iterLeft m r w = rest.length := by
  cases m with
  | none => rw [show rest = [] from h.1]; rfl
  | some b =>
    obtain ⟨es, clock, since, seen, c0, hb, _, hr, _, _, _, he, _⟩ := h
    have h4 := congrArg List.length he
    simp only [List.length_map, Array.length_toList] at h4
    show w.rangeLeft b r = _
    simp only [World.rangeLeft, hb, hr]
    exact h4
section
variable {ops : Array Oper} {rest : List Oper} {o : Oper} {a : Act} {w : World} {Q : Exit → Act → World → Prop}
theorem wpList_range_cn (hg : o.guard = none) (x : Operand) (hop : o.op = Op.range 30 x) (m : Option Nat) (l : List TSp) (hx : a.eval x = .map m) (h : MapO w m l)
    (hK : ∀ w', IterAt w' m w.heap.size l → Below w.heap.size w w' → w'.heap.size = w.heap.size + 1 → wpList Tryd.prog ops Q rest (a.put o.dst (.pointer (some ⟨w.heap.size, 0, none⟩))) w') : wpList Tryd.prog ops Q (o :: rest) a w := by
  refine wpList_plain hg fun K' hK' => ?_
  obtain ⟨w', hrun, r1, r2, r3⟩ := run_range_cn h
  unfold Oper.wp
  simp [execOp, hop, hx, hrun, Result.andThen]
  exact hK' _ _ (hK w' r1 r2 r3)
theorem wpList_next_cn (hg : o.guard = none) (it : Operand) (hop : o.op = Op.next it false) (m : Option Nat) (r : Nat) (l : List TSp) (hit : a.eval it = .pointer (some ⟨r, 0, none⟩)) (h : IterAt w m r l) (hm : m ≠ some r)
    (hDone : l = [] → wpList Tryd.prog ops Q rest (a.put o.dst (.tuple #[.bool false])) w)
    (hMore : ∀ (x : TSp) (l' : List TSp) (w' : World), l.Perm (x :: l') → SpOk x → IterAt w' m r l' → w.grownBy w' (some r) → w'.heap.size = w.heap.size →
      (Instr.entry (.pointer (some ⟨r, 0, none⟩))).run Tryd.prog w' = .ok (.tuple #[.agg (ptC x.at_).toArray, .agg (mnL x.coin).toArray]) w' → wpList Tryd.prog ops Q rest (a.put o.dst (.tuple #[.bool true, .agg (ptC x.at_).toArray, .agg (mnL x.coin).toArray])) w') :
    wpList Tryd.prog ops Q (o :: rest) a w := by
  refine wpList_plain hg fun K' hK' => ?_
  unfold Oper.wp
  rcases run_next_cn h hm o.type with ⟨h0, hrun⟩ | ⟨x, l', w', hp, hx, hrun, hi, hgr, hsz, hen⟩
  · simp [execOp, hop, hit, hrun, Result.andThen]
    exact hK' _ _ (hDone h0)
  · simp [execOp, hop, hit, hrun, Result.andThen]
    exact hK' _ _ (hMore x l' w' hp hx hi hgr hsz hen)
end
/-- All values together. -/
def worthC (l : List TSp) : Nat := (l.map (·.coin.val)).sum
theorem worthC_perm {l l' : List TSp} (h : l.Perm l') : worthC l = worthC l' := (h.map _).sum_nat
def TotInv (m : Option Nat) (r : Nat) (l : List TSp) (w : World) (vt : Value) (wr : World) : Prop :=
  ∃ (d rest : List TSp) (t : Nat), vt = .int .u64 (t : Int) ∧ t = worthC d % 18446744073709551616 ∧ IterAt wr m r rest ∧ (d ++ rest).Perm l ∧ Below w.heap.size w wr
set_option maxHeartbeats 2000000 in
set_option maxRecDepth 100000 in
theorem settotal_any (w : World) (a : Nat) (m : Option Nat) (l : List TSp) (h : SetAt w a m l) (t : Nat) (ht : t = worthC l % 18446744073709551616) :
    Calls Tryd.prog 19 #[.pointer (some ⟨a, 0, none⟩)] w fun e w' => e = .returned (.int .u64 (t : Int)) ∧ Below w.heap.size w w' := by
  have c0 := h.cell
  have HS := Lib.hid h
  have HT := Lib.hid ht
  have HM : Hid (m ≠ some w.heap.size) := fun e => by have := h.map.lt _ e; omega
  clear h ht
  go_enter Tryd.func19, Tryd.ntmps19
  go_wp2_with (at_range; refine wpList_range_cn rfl (.tmp 8) rfl m l rfl HS.out.map ?_; intro w2 q1 q2 q3; have IT := Lib.hid q1; have B2 := Lib.hid q2; clear q1 q2 q3)
  go_frame
  obtain ⟨r, hr⟩ : ∃ r, r = w.heap.size := ⟨_, rfl⟩
  rw [← hr] at IT HM ⊢
  have HR : Hid (w.heap.size ≤ r) := by show _ ≤ _; rw [hr]; exact Nat.le_refl _
  clear hr c0
  go_loopw [2] (fun vt wr => TotInv m r l w vt wr) (fun _ wr => iterLeft m r wr)
  case atStart => exact ⟨[], l, 0, rfl, rfl, IT.out, List.Perm.refl _, B2.out⟩
  case round =>
    clear IT B2
    obtain ⟨d, rest, t1, rfl, ht1, hit, hp, hb⟩ := hrel
    have IT := Lib.hid hit
    have T1 := Lib.hid ht1
    have PM := Lib.hid hp
    have BB := Lib.hid hb
    clear hit ht1 hp hb
    go_wp2_with (at_next; refine wpList_next_cn rfl (.tmp 9) rfl m r rest rfl IT.out HM.out ?_ ?_)
    · intro he
      have E0 := Lib.hid he
      clear he
      go_wp2_with fail
      go_ret
      have : t1 = t := by
        rw [T1.out, HT.out]
        have h1 := PM.out
        rw [E0.out, List.append_nil] at h1
        rw [worthC_perm h1]
      subst this
      exact ⟨rfl, BB.out⟩
    · intro x l' w3 hp hx hi hg hsz hen
      have PX := Lib.hid hp
      have OX := Lib.hid hx
      have I3 := Lib.hid hi
      have B3 := Lib.hid (BB.out.grown hg BB.out.size (fun k hk => by cases hk; exact HR.out))
      have MS : Hid ((mnL x.coin).toArray.size = 35) := mnL_size hx.2
      have KC : Hid (∀ (W : World) (g : Nat), W.heap[g]? = some (.cells (mnL x.coin).toArray 39 (0, 0)) → W.cell? ⟨g, 0, none⟩ = some (.int .u64 (x.coin.val : Int))) := fun W g h => by
        rw [cell_of_row _ _ _ _ _ _ h]
        rfl
      obtain ⟨vx, hvx⟩ : ∃ vx, vx = x.coin.val := ⟨_, rfl⟩
      have VX := Lib.hid hvx
      have VB : Hid (vx ≤ 18446744073709551615) := by show _ ≤ _; rw [hvx]; exact hx.2.2.1
      have MA : Hid ((mnL x.coin).toArray.all (·.oneCell') = true) := mnL_all _
      rw [← hvx] at KC
      obtain ⟨cp, hcp⟩ : ∃ cp, cp = (ptC x.at_).toArray := ⟨_, rfl⟩
      obtain ⟨cm, hcm⟩ : ∃ cm, cm = (mnL x.coin).toArray := ⟨_, rfl⟩
      rw [← hcp] at hen ⊢
      rw [← hcm] at hen KC MS MA ⊢
      clear hp hx hi hg hsz hvx hcp hcm
      go_upto_region 4 with ((with_reducible show wpList _ _ _ _ _ _); refine wpList_store_row rfl 39 (.tmp 4) (.tmp 13) rfl w3.heap.size cm rfl rfl 39 _ (heap_alloc_new _ _) (by rw [MS.out]; kernel_rfl) (by rw [MS.out]; rfl) MA.out ?_; go_frame)
      clear hen
      obtain ⟨_, f2, f3, f4⟩ := fill_setup (Below.refl w3.heap.size w3) (mnL mnZ).toArray cm 39
      generalize hw5 : World.setRow _ _ _ = w5
      have e5 : World.setRow (w3.alloc (.cells (mnL mnZ).toArray 39)) w3.heap.size cm = w5 := hw5
      rw [e5] at f2 f3 f4
      have c5 := KC.out _ _ f2
      have I5 := Lib.hid (I3.out.below f4)
      have B5 := Lib.hid (B3.out.trans (f4.mono B3.out.size))
      have ta : 0 ≤ (t1 : Int) ∧ (t1 : Int) ≤ 18446744073709551615 := by have := T1.out; omega
      have tb : (vx : Int) ≤ 18446744073709551615 := by have := VB.out; omega
      clear f2 f3 f4 hw5 e5
      go_wp2_with fail
      go_roundw
      case rel =>
        refine ⟨d ++ [x], l', (t1 + vx) % 18446744073709551616, ?_, ?_, I5.out, ?_, B5.out⟩
        · first | rfl | (congr 1; rw [IntKind.wrap_u64]; omega)
        · have h1 : worthC (d ++ [x]) = worthC d + vx := by simp [worthC, VX.out]
          rw [h1, T1.out]
          omega
        · rw [List.append_assoc]
          exact (PX.out.symm.append_left d).trans PM.out
      case measure =>
        rw [I5.out.left, IT.out.left, PX.out.length_eq]
        exact Nat.lt_succ_self _
end Go.Proofs.YtlmfchcafhidoaaDoor.Sha

/-
  digest.Less tells whether one digest stands ahead of another, byte by byte; nothing that was there turns. Condition: digests of 32 bytes.
-/
namespace Go.Proofs.YtlmfchcafhidoaaDoor.Sha
open Go Go.RowKit
theorem bytesOf_bv (l : List UInt8) : Lib.bytesOf (l.map bv) = l := by
  unfold Lib.bytesOf
  rw [List.map_map]
  conv => rhs; rw [← List.map_id l]
  apply List.map_congr_left
  intro x _
  show _ = x
  simp [bv]
theorem run_bytes {P : Program} {w : World} (l : List UInt8) (b off cap : Nat) (h : ∀ j, j < l.length → w.cell? ⟨b, off + j, none⟩ = some (.int .u8 (bv (l.getD j 0)))) :
    (Extern.Bytes.bytesOf (.slice (some ⟨b, off, none⟩) l.length cap)).run P w = .ok ⟨l.toArray⟩ w := by
  have := Lib.run_loadBytesX (P := P) w (l.map bv) ⟨b, off, none⟩ .empty (fun j x hj => by
    have hj1 : j < l.length := by have := (List.getElem?_eq_some_iff.1 hj).1; rwa [List.length_map] at this
    rw [Addr.add_mid, h j hj1]
    rw [List.getElem?_map, List.getElem?_eq_getElem hj1] at hj
    simp only [Option.map_some, Option.some.injEq] at hj
    rw [← hj]
    simp [List.getD, List.getElem?_eq_getElem hj1])
  rw [List.length_map, bytesOf_bv] at this
  show (Extern.Bytes.loadBytes _ _ _).run P w = _
  rw [this]
  simp
theorem run_compare {P : Program} {w : World} (l m : List UInt8) (b c off off' cap cap' : Nat) (h : ∀ j, j < l.length → w.cell? ⟨b, off + j, none⟩ = some (.int .u8 (bv (l.getD j 0))))
    (h' : ∀ j, j < m.length → w.cell? ⟨c, off' + j, none⟩ = some (.int .u8 (bv (m.getD j 0)))) :
    (Extern.BytealgCompare.compare #[.slice (some ⟨b, off, none⟩) l.length cap, .slice (some ⟨c, off', none⟩) m.length cap']).run P w = .ok (.int .i64 (Lib.compareBytes l m)) w := by
  change Sem.run P (do pure (goInt (Extern.BytealgCompare.cmp (← Extern.Bytes.bytesOf (.slice (some ⟨b, off, none⟩) l.length cap)) (← Extern.Bytes.bytesOf (.slice (some ⟨c, off', none⟩) m.length cap'))))) w = _
  simp only [Sem.run_bind, run_bytes l b off cap h, run_bytes m c off' cap' h', Sem.run_pure, Result.andThen]
  rw [Lib.cmp_eq]
  rfl
set_option maxRecDepth 100000 in
theorem compare_any (l m : List UInt8) (n n' b c off off' cap cap' : Nat) (w : World) (hn : n = l.length) (hn' : n' = m.length) (h : ∀ j, j < l.length → w.cell? ⟨b, off + j, none⟩ = some (.int .u8 (bv (l.getD j 0))))
    (h' : ∀ j, j < m.length → w.cell? ⟨c, off' + j, none⟩ = some (.int .u8 (bv (m.getD j 0)))) :
    Calls Tryd.prog 86 #[.slice (some ⟨b, off, none⟩) n cap, .slice (some ⟨c, off', none⟩) n' cap'] w fun e w' => e = .returned (.int .i64 (Lib.compareBytes l m)) ∧ w = w' := by
  subst hn hn'
  have HR := Lib.hid (run_compare (P := Tryd.prog) l m b c off off' cap cap' h h')
  clear h h'
  go_enter Tryd.func86, Tryd.ntmps86
  go_wp2
  rw [run_callFunc_extern Tryd.func91 (by kernel_rfl) (by kernel_rfl) (by kernel_rfl) (e := Extern.BytealgCompare.compare) (by kernel_rfl), HR.out]
  simp only [Result.andThen]
  rw [Oper.upon_value]
  go_wp2
  go_ret
  exact ⟨rfl, rfl⟩
def lessL (l m : List UInt8) : Bool := decide (Lib.compareBytes l m < 0)
theorem less_cons (x y : UInt8) (l m : List UInt8) : lessL (x :: l) (y :: m) = (decide (x < y) || (decide (x = y) && lessL l m)) := by
  unfold lessL
  simp only [Lib.compareBytes]
  by_cases h1 : x < y
  · simp [h1]
  · by_cases h2 : y < x
    · have h3 : ¬ x = y := fun e => by subst e; exact h1 h2
      simp [h1, h2, h3]
    · have h3 : x = y := UInt8.le_antisymm (UInt8.not_lt.1 h2) (UInt8.not_lt.1 h1)
      subst h3
      simp [h1]
theorem less_self (l : List UInt8) : lessL l l = false := by
  induction l with
  | nil => rfl
  | cons x l ih => rw [less_cons, ih]; simp
set_option maxRecDepth 100000 in
theorem less_any (l m : List UInt8) (hl : l.length = 32) (hm : m.length = 32) (w : World) :
    Calls Tryd.prog 74 #[.agg (l.map bV).toArray, .agg (m.map bV).toArray] w fun e w' => e = .returned (.bool (lessL l m)) ∧ Below w.heap.size w w' := by
  have HL := Lib.hid hl
  have HM := Lib.hid hm
  have hb : Below w.heap.size w ((w.alloc (.cells (l.map bV).toArray 24)).alloc (.cells (m.map bV).toArray 24)) := ((Below.refl _ _).alloc (Nat.le_refl _) _).alloc (by simp) _
  have h1 : ∀ j, j < l.length → ((w.alloc (.cells (l.map bV).toArray 24)).alloc (.cells (m.map bV).toArray 24)).cell? ⟨w.heap.size, 0 + j, none⟩ = some (.int .u8 (bv (l.getD j 0))) := fun j hj => by
    rw [Nat.zero_add, cell_of_row _ _ _ _ _ _ (heap_alloc2_old w _ _), bV_get _ _ hj]
  have h2 : ∀ j, j < m.length → ((w.alloc (.cells (l.map bV).toArray 24)).alloc (.cells (m.map bV).toArray 24)).cell? ⟨w.heap.size + 1, 0 + j, none⟩ = some (.int .u8 (bv (m.getD j 0))) := fun j hj => by
    rw [Nat.zero_add, cell_of_row _ _ _ _ _ _ (heap_alloc2_new w _ _), bV_get _ _ hj]
  have HB := Lib.hid hb
  have H1 := Lib.hid h1
  have H2 := Lib.hid h2
  clear hl hm hb h1 h2
  go_enter Tryd.func74, Tryd.ntmps74
  go_wp2_with fail
  generalize hw2 : World.alloc _ _ = w2
  rw [hw2] at HB H1 H2
  clear hw2
  obtain ⟨z, hz⟩ : ∃ z, Lib.compareBytes l m = z := ⟨_, rfl⟩
  have HC : ∀ n, Hid (Calls Tryd.prog 86 #[.slice (some ⟨w.heap.size, 0, none⟩) 32 32, .slice (some ⟨w.heap.size + 1, 0, none⟩) 32 32] (w2.drewN n) fun e w' => e = .returned (.int .i64 z) ∧ w' = w2.drewN n) := fun n => by
    have := compare_any l m 32 32 w.heap.size (w.heap.size + 1) 0 0 32 32 (w2.drewN n) HL.out.symm HM.out.symm H1.out H2.out
    rw [hz] at this
    exact same_of this
  have HZ := Lib.hid hz
  clear hz
  go_quiet ((go_at_call 86; exact Calls.quiet_of_same (HC _).out))
  go_wp2_with fail
  go_ret
  exact ⟨by unfold lessL; rw [HZ.out]; rfl, below_drewN HB.out _⟩
end Go.Proofs.YtlmfchcafhidoaaDoor.Sha

/-
  spend.Less tells whether one place stands ahead of another: by the digest, then by the number. Nothing that was there turns. Condition: digests of 32 bytes.
-/
namespace Go.Proofs.YtlmfchcafhidoaaDoor.Sha
open Go Go.RowKit
/-- The order of places. -/
def lessPt (h : List UInt8) (n : Nat) (h' : List UInt8) (n' : Nat) : Bool := if h = h' then decide (n < n') else lessL h h'
set_option maxRecDepth 100000 in
theorem lesspt_any (h h' : List UInt8) (n n' : Nat) (hh : h.length = 32) (hh' : h'.length = 32) (b : Bool) (hb : b = lessPt h n h' n') (w : World) :
    Calls Tryd.prog 47 #[.agg (ptL h n).toArray, .agg (ptL h' n').toArray] w fun e w' => e = .returned (.bool b) ∧ Below w.heap.size w w' := by
  have hl : (h.map bV).length = 32 := by simp [hh]
  have hl' : (h'.map bV).length = 32 := by simp [hh']
  have HL := Lib.hid hl
  have HL' := Lib.hid hl'
  have HH := Lib.hid hh
  have HH' := Lib.hid hh'
  have HB := Lib.hid hb
  clear hl hl' hh hh' hb
  go_enter Tryd.func47, Tryd.ntmps47
  go_upto_region 1 with fail
  obtain ⟨B, F, F'⟩ := pt_boxes w h h' n n' 27
  generalize hw1 : World.alloc _ _ = w1
  rw [hw1] at B F F'
  have c : w1.cell? ⟨w.heap.size, 32, none⟩ = some (.int .u32 (n : Int)) := pt_num HH.out F
  have c' : w1.cell? ⟨w.heap.size + 1, 32, none⟩ = some (.int .u32 (n' : Int)) := pt_num HH'.out F'
  have B := Lib.hid B
  have F := Lib.hid F
  have F' := Lib.hid F'
  clear hw1
  by_cases he : h = h'
  · have e1 : (!decide (h = h')) = false := by simp [he]
    have E1 := Lib.hid e1.symm
    have HE := Lib.hid he
    clear he e1
    go_wp2_with ((with_reducible show wpList _ _ _ _ _ _); first | (refine wpList_load_mid rfl 24 (.tmp 5) rfl w.heap.size 0 rfl (h.map bV) _ (pt_hash F.out) Tryd.underlying24 rfl (by rw [HL.out]; kernel_rfl) ?_; go_frame) | (refine wpList_load_mid rfl 24 (.tmp 7) rfl (w.heap.size + 1) 0 rfl (h'.map bV) _ (pt_hash F'.out) Tryd.underlying24 rfl (by rw [HL'.out]; kernel_rfl) ?_; go_frame) | (refine wpList_neq_hash rfl (.tmp 6) (.tmp 8) _ rfl h h' HH.out HH'.out rfl rfl false E1.out ?_; go_frame))
    go_ret
    exact ⟨by rw [HB.out, lessPt, if_pos HE.out]; congr 2, B.out⟩
  · have e1 : (!decide (h = h')) = true := by simp [he]
    have E1 := Lib.hid e1.symm
    have HE := Lib.hid he
    clear he e1
    go_wp2_with ((with_reducible show wpList _ _ _ _ _ _); first | (refine wpList_load_mid rfl 24 (.tmp 5) rfl w.heap.size 0 rfl (h.map bV) _ (pt_hash F.out) Tryd.underlying24 rfl (by rw [HL.out]; kernel_rfl) ?_; go_frame) | (refine wpList_load_mid rfl 24 (.tmp 7) rfl (w.heap.size + 1) 0 rfl (h'.map bV) _ (pt_hash F'.out) Tryd.underlying24 rfl (by rw [HL'.out]; kernel_rfl) ?_; go_frame) | (refine wpList_neq_hash rfl (.tmp 6) (.tmp 8) _ rfl h h' HH.out HH'.out rfl rfl true E1.out ?_; go_frame) | (refine wpList_load_mid rfl 24 (.tmp 10) rfl w.heap.size 0 rfl (h.map bV) _ (pt_hash F.out) Tryd.underlying24 rfl (by rw [HL.out]; kernel_rfl) ?_; go_frame) | (refine wpList_load_mid rfl 24 (.tmp 12) rfl (w.heap.size + 1) 0 rfl (h'.map bV) _ (pt_hash F'.out) Tryd.underlying24 rfl (by rw [HL'.out]; kernel_rfl) ?_; go_frame))
    refine (less_any h h' HH.out HH'.out _).mono ?_
    rintro e w2 ⟨rfl, hb2⟩
    have B2 := Lib.hid (B.out.trans (hb2.mono B.out.size))
    clear hb2 c c'
    go_wp2_with fail
    go_ret
    exact ⟨by rw [HB.out, lessPt, if_neg HE.out]; rfl, B2.out⟩
end Go.Proofs.YtlmfchcafhidoaaDoor.Sha

/-
  The order of digests and of places: of two unlike ones just one is less; less and less is less. Condition: digests of one length.
-/
namespace Go.Proofs.YtlmfchcafhidoaaDoor.Sha
open Go Go.RowKit
theorem less_asym : ∀ (l m : List UInt8), l.length = m.length → lessL l m = true → lessL m l = false
  | [], [], _, h => by cases h
  | x :: l, y :: m, hl, h => by
    rw [less_cons] at h ⊢
    simp only [Bool.or_eq_true, Bool.and_eq_true, decide_eq_true_eq] at h
    rcases h with h | ⟨rfl, h⟩
    · have h1 : ¬ y < x := fun h2 => absurd (UInt8.lt_trans h h2) (UInt8.lt_irrefl x)
      have h2 : ¬ y = x := fun e => by subst e; exact absurd h (UInt8.lt_irrefl y)
      simp [h1, h2]
    · rw [less_asym l m (by simpa using hl) h]
      simp [UInt8.lt_irrefl]
theorem less_total : ∀ (l m : List UInt8), l.length = m.length → l ≠ m → lessL l m = false → lessL m l = true
  | [], [], _, h, _ => absurd rfl h
  | x :: l, y :: m, hl, hne, h => by
    rw [less_cons] at h ⊢
    simp only [Bool.or_eq_false_iff, Bool.and_eq_false_iff, decide_eq_false_iff_not] at h
    by_cases e : x = y
    · subst e
      have h1 : lessL l m = false := by rcases h.2 with h2 | h2 <;> simp_all
      rw [less_total l m (by simpa using hl) (fun e => hne (by rw [e])) h1]
      simp
    · have : y < x := UInt8.lt_of_le_of_ne (UInt8.not_lt.1 h.1) (fun e' => e e'.symm)
      simp [this]
theorem less_trans : ∀ (l m k : List UInt8), l.length = m.length → m.length = k.length → lessL l m = true → lessL m k = true → lessL l k = true
  | [], [], _, _, _, h, _ => by cases h
  | x :: l, y :: m, z :: k, h1, h2, h, h' => by
    rw [less_cons] at h h' ⊢
    simp only [Bool.or_eq_true, Bool.and_eq_true, decide_eq_true_eq] at h h' ⊢
    rcases h with h | ⟨rfl, h⟩ <;> rcases h' with h' | ⟨rfl, h'⟩
    · exact .inl (UInt8.lt_trans h h')
    · exact .inl h
    · exact .inl h'
    · exact .inr ⟨rfl, less_trans l m k (by simpa using h1) (by simpa using h2) h h'⟩
theorem lessPt_asym {a b : List UInt8} {n m : Nat} (hl : a.length = b.length) (h : lessPt a n b m = true) : lessPt b m a n = false := by
  unfold lessPt at h ⊢
  by_cases e : a = b
  · subst e
    simp only [if_true, decide_eq_true_eq] at h ⊢
    exact decide_eq_false (by omega)
  · rw [if_neg e] at h
    rw [if_neg (fun e' => e e'.symm)]
    exact less_asym a b hl h
theorem lessPt_total {a b : List UInt8} {n m : Nat} (hl : a.length = b.length) (hne : (decide (a = b) && decide (n = m)) = false) (h : lessPt a n b m = false) : lessPt b m a n = true := by
  unfold lessPt at h ⊢
  by_cases e : a = b
  · subst e
    simp at h hne ⊢
    omega
  · rw [if_neg e] at h
    rw [if_neg (fun e' => e e'.symm)]
    exact less_total a b hl e h
theorem lessPt_self (a : List UInt8) (n : Nat) : lessPt a n a n = false := by simp [lessPt]
theorem lessPt_ne {a b : List UInt8} {n m : Nat} (h : lessPt a n b m = true) : (decide (a = b) && decide (n = m)) = false := by
  by_cases e : a = b
  · subst e
    by_cases e2 : n = m
    · subst e2
      rw [lessPt_self] at h
      cases h
    · simp [e2]
  · simp [e]
theorem lessPt_trans {a b c : List UInt8} {n m k : Nat} (hl : a.length = b.length) (hl' : b.length = c.length) (h : lessPt a n b m = true) (h' : lessPt b m c k = true) : lessPt a n c k = true := by
  unfold lessPt at h h' ⊢
  by_cases e : a = b
  · subst e
    by_cases e' : a = c
    · subst e'
      simp only [if_true, decide_eq_true_eq] at h h' ⊢
      omega
    · simp only [if_true, if_neg e', decide_eq_true_eq] at h h' ⊢
      exact h'
  · by_cases e' : b = c
    · subst e'
      simp only [if_neg e] at h ⊢
      exact h
    · simp only [if_neg e, if_neg e'] at h h'
      have h2 := less_trans a b c hl hl' h h'
      by_cases e2 : a = c
      · subst e2
        rw [less_self] at h2
        cases h2
      · rw [if_neg e2]
        exact h2
end Go.Proofs.YtlmfchcafhidoaaDoor.Sha

/-
  Worlds that only grow: blocks are laid behind, orders drawn; digests and places held against each other do no more. Condition: digests of 32 bytes.
-/
namespace Go.Proofs.YtlmfchcafhidoaaDoor.Sha
open Go Go.RowKit
open Go.Sort (grow grow_empty grow_grow alloc_eq_grow heap_grow_old size_grow)
/-- w' is w with orders drawn and blocks laid behind. -/
def Lay (w w' : World) : Prop := ∃ q os, w' = grow (w.drewN q) os
theorem Lay.refl (w : World) : Lay w w := ⟨0, #[], by rw [grow_empty]; rfl⟩
theorem Lay.alloc {w w1 : World} (h : Lay w w1) (o : Obj) : Lay w (w1.alloc o) := by
  obtain ⟨q, os, rfl⟩ := h
  exact ⟨q, os ++ #[o], by rw [alloc_eq_grow, grow_grow]⟩
theorem Lay.two (w : World) (o o' : Obj) : Lay w ((w.alloc o).alloc o') := ((Lay.refl w).alloc o).alloc o'
theorem Lay.drewN {w w1 : World} (h : Lay w w1) (n : Nat) : Lay w (w1.drewN n) := by
  obtain ⟨q, os, rfl⟩ := h
  exact ⟨q + n, os, by simp [World.drewN, grow, Nat.add_assoc]⟩
theorem Lay.below {w w' : World} (h : Lay w w') : Below w.heap.size w w' := by
  obtain ⟨q, os, rfl⟩ := h
  exact ⟨rfl, rfl, rfl, by simp [World.drewN], fun k hk => heap_grow_old (w.drewN q) os hk⟩
theorem Lay.trans {w w1 w2 : World} (h : Lay w w1) (k : Lay w1 w2) : Lay w w2 := by
  obtain ⟨q, os, rfl⟩ := h
  obtain ⟨q', os', rfl⟩ := k
  exact ⟨q + q', os ++ os', by simp [World.drewN, grow, Nat.add_assoc, Array.append_assoc]⟩
set_option maxRecDepth 100000 in
theorem less_lay (l m : List UInt8) (hl : l.length = 32) (hm : m.length = 32) (w : World) :
    Calls Tryd.prog 74 #[.agg (l.map bV).toArray, .agg (m.map bV).toArray] w fun e w' => e = .returned (.bool (lessL l m)) ∧ Lay w w' := by
  have HL := Lib.hid hl
  have HM := Lib.hid hm
  have hb : Below w.heap.size w ((w.alloc (.cells (l.map bV).toArray 24)).alloc (.cells (m.map bV).toArray 24)) := ((Below.refl _ _).alloc (Nat.le_refl _) _).alloc (by simp) _
  have h1 : ∀ j, j < l.length → ((w.alloc (.cells (l.map bV).toArray 24)).alloc (.cells (m.map bV).toArray 24)).cell? ⟨w.heap.size, 0 + j, none⟩ = some (.int .u8 (bv (l.getD j 0))) := fun j hj => by
    rw [Nat.zero_add, cell_of_row _ _ _ _ _ _ (heap_alloc2_old w _ _), bV_get _ _ hj]
  have h2 : ∀ j, j < m.length → ((w.alloc (.cells (l.map bV).toArray 24)).alloc (.cells (m.map bV).toArray 24)).cell? ⟨w.heap.size + 1, 0 + j, none⟩ = some (.int .u8 (bv (m.getD j 0))) := fun j hj => by
    rw [Nat.zero_add, cell_of_row _ _ _ _ _ _ (heap_alloc2_new w _ _), bV_get _ _ hj]
  have HB := Lib.hid hb
  have LB : Hid (Lay w ((w.alloc (.cells (l.map bV).toArray 24)).alloc (.cells (m.map bV).toArray 24))) := Lay.two _ _ _
  have H1 := Lib.hid h1
  have H2 := Lib.hid h2
  clear hl hm hb h1 h2
  go_enter Tryd.func74, Tryd.ntmps74
  go_wp2_with fail
  generalize hw2 : World.alloc _ _ = w2
  rw [hw2] at HB LB H1 H2
  clear hw2
  obtain ⟨z, hz⟩ : ∃ z, Lib.compareBytes l m = z := ⟨_, rfl⟩
  have HC : ∀ n, Hid (Calls Tryd.prog 86 #[.slice (some ⟨w.heap.size, 0, none⟩) 32 32, .slice (some ⟨w.heap.size + 1, 0, none⟩) 32 32] (w2.drewN n) fun e w' => e = .returned (.int .i64 z) ∧ w' = w2.drewN n) := fun n => by
    have := compare_any l m 32 32 w.heap.size (w.heap.size + 1) 0 0 32 32 (w2.drewN n) HL.out.symm HM.out.symm H1.out H2.out
    rw [hz] at this
    exact same_of this
  have HZ := Lib.hid hz
  clear hz
  go_quiet ((go_at_call 86; exact Calls.quiet_of_same (HC _).out))
  go_wp2_with fail
  go_ret
  exact ⟨by unfold lessL; rw [HZ.out]; rfl, LB.out.drewN _⟩
set_option maxRecDepth 100000 in
theorem lesspt_lay (h h' : List UInt8) (n n' : Nat) (hh : h.length = 32) (hh' : h'.length = 32) (b : Bool) (hb : b = lessPt h n h' n') (w : World) :
    Calls Tryd.prog 47 #[.agg (ptL h n).toArray, .agg (ptL h' n').toArray] w fun e w' => e = .returned (.bool b) ∧ Lay w w' := by
  have hl : (h.map bV).length = 32 := by simp [hh]
  have hl' : (h'.map bV).length = 32 := by simp [hh']
  have HL := Lib.hid hl
  have HL' := Lib.hid hl'
  have HH := Lib.hid hh
  have HH' := Lib.hid hh'
  have HB := Lib.hid hb
  clear hl hl' hh hh' hb
  go_enter Tryd.func47, Tryd.ntmps47
  go_upto_region 1 with fail
  obtain ⟨B, F, F'⟩ := pt_boxes w h h' n n' 27
  have LB := Lay.two w (.cells (ptL h n).toArray 27 (0, 0)) (.cells (ptL h' n').toArray 27 (0, 0))
  generalize hw1 : World.alloc _ _ = w1
  rw [hw1] at B F F' LB
  have LB := Lib.hid LB
  have c : w1.cell? ⟨w.heap.size, 32, none⟩ = some (.int .u32 (n : Int)) := pt_num HH.out F
  have c' : w1.cell? ⟨w.heap.size + 1, 32, none⟩ = some (.int .u32 (n' : Int)) := pt_num HH'.out F'
  have B := Lib.hid B
  have F := Lib.hid F
  have F' := Lib.hid F'
  clear hw1
  by_cases he : h = h'
  · have e1 : (!decide (h = h')) = false := by simp [he]
    have E1 := Lib.hid e1.symm
    have HE := Lib.hid he
    clear he e1
    go_wp2_with ((with_reducible show wpList _ _ _ _ _ _); first | (refine wpList_load_mid rfl 24 (.tmp 5) rfl w.heap.size 0 rfl (h.map bV) _ (pt_hash F.out) Tryd.underlying24 rfl (by rw [HL.out]; kernel_rfl) ?_; go_frame) | (refine wpList_load_mid rfl 24 (.tmp 7) rfl (w.heap.size + 1) 0 rfl (h'.map bV) _ (pt_hash F'.out) Tryd.underlying24 rfl (by rw [HL'.out]; kernel_rfl) ?_; go_frame) | (refine wpList_neq_hash rfl (.tmp 6) (.tmp 8) _ rfl h h' HH.out HH'.out rfl rfl false E1.out ?_; go_frame))
    go_ret
    exact ⟨by rw [HB.out, lessPt, if_pos HE.out]; congr 2, LB.out⟩
  · have e1 : (!decide (h = h')) = true := by simp [he]
    have E1 := Lib.hid e1.symm
    have HE := Lib.hid he
    clear he e1
    go_wp2_with ((with_reducible show wpList _ _ _ _ _ _); first | (refine wpList_load_mid rfl 24 (.tmp 5) rfl w.heap.size 0 rfl (h.map bV) _ (pt_hash F.out) Tryd.underlying24 rfl (by rw [HL.out]; kernel_rfl) ?_; go_frame) | (refine wpList_load_mid rfl 24 (.tmp 7) rfl (w.heap.size + 1) 0 rfl (h'.map bV) _ (pt_hash F'.out) Tryd.underlying24 rfl (by rw [HL'.out]; kernel_rfl) ?_; go_frame) | (refine wpList_neq_hash rfl (.tmp 6) (.tmp 8) _ rfl h h' HH.out HH'.out rfl rfl true E1.out ?_; go_frame) | (refine wpList_load_mid rfl 24 (.tmp 10) rfl w.heap.size 0 rfl (h.map bV) _ (pt_hash F.out) Tryd.underlying24 rfl (by rw [HL.out]; kernel_rfl) ?_; go_frame) | (refine wpList_load_mid rfl 24 (.tmp 12) rfl (w.heap.size + 1) 0 rfl (h'.map bV) _ (pt_hash F'.out) Tryd.underlying24 rfl (by rw [HL'.out]; kernel_rfl) ?_; go_frame))
    refine (less_lay h h' HH.out HH'.out _).mono ?_
    rintro e w2 ⟨rfl, hb2⟩
    have B2 := Lib.hid (LB.out.trans hb2)
    clear hb2 c c'
    go_wp2_with fail
    go_ret
    exact ⟨by rw [HB.out, lessPt, if_neg HE.out]; rfl, B2.out⟩
set_option maxHeartbeats 1000000 in
set_option maxRecDepth 100000 in
/-- package coins' own order. -/
theorem byplace_lay (x y : TSp) (hx : SpOk x) (hy : SpOk y) (z : Int) (hz : z = if lessPt x.at_.h x.at_.n y.at_.h y.at_.n then -1 else if lessPt y.at_.h y.at_.n x.at_.h x.at_.n then 1 else 0) (w : World) :
    Calls Tryd.prog 34 #[.agg (spL x).toArray, .agg (spL y).toArray] w fun e w' => e = .returned (.int .i64 z) ∧ Lay w w' := by
  have LX : Hid ((spL x).toArray.size = 68) := spL_size hx
  have LY : Hid ((spL y).toArray.size = 68) := spL_size hy
  obtain ⟨b, hb⟩ : ∃ b, b = lessPt x.at_.h x.at_.n y.at_.h y.at_.n := ⟨_, rfl⟩
  obtain ⟨b', hb'⟩ : ∃ b', b' = lessPt y.at_.h y.at_.n x.at_.h x.at_.n := ⟨_, rfl⟩
  rw [← hb, ← hb'] at hz
  have L1 : Hid (∀ W, Calls Tryd.prog 47 #[.agg (ptC x.at_).toArray, .agg (ptC y.at_).toArray] W fun e w' => e = .returned (.bool b) ∧ Lay W w') := fun W => lesspt_lay _ _ _ _ hx.1.1 hy.1.1 b hb W
  have L2 : Hid (∀ W, Calls Tryd.prog 47 #[.agg (ptC y.at_).toArray, .agg (ptC x.at_).toArray] W fun e w' => e = .returned (.bool b') ∧ Lay W w') := fun W => lesspt_lay _ _ _ _ hy.1.1 hx.1.1 b' hb' W
  have PX : Hid ((ptC x.at_).length = 33) := ptC_length hx.1
  have PY : Hid ((ptC y.at_).length = 33) := ptC_length hy.1
  have RX : Hid (∀ (W : World) (g : Nat), W.heap[g]? = some (.cells (spL x).toArray 45 (0, 0)) → W.rangeAt g 0 (ptC x.at_)) := fun W g h => sp_pt (range_of_box h)
  have RY : Hid (∀ (W : World) (g : Nat), W.heap[g]? = some (.cells (spL y).toArray 45 (0, 0)) → W.rangeAt g 0 (ptC y.at_)) := fun W g h => sp_pt (range_of_box h)
  have HZ := Lib.hid hz
  obtain ⟨sx, hsx⟩ : ∃ sx, sx = spL x := ⟨_, rfl⟩
  obtain ⟨sy, hsy⟩ : ∃ sy, sy = spL y := ⟨_, rfl⟩
  obtain ⟨px, hpx⟩ : ∃ px, px = ptC x.at_ := ⟨_, rfl⟩
  obtain ⟨py, hpy⟩ : ∃ py, py = ptC y.at_ := ⟨_, rfl⟩
  rw [← hsx] at LX RX ⊢
  rw [← hsy] at LY RY ⊢
  rw [← hpx] at L1 L2 PX RX
  rw [← hpy] at L1 L2 PY RY
  clear hz hb hb' hsx hsy hpx hpy hx hy
  go_enter Tryd.func34, Tryd.ntmps34
  go_upto_region 1 with fail
  obtain ⟨B, F, F'⟩ := boxes_two w sx.toArray sy.toArray 45
  have LB := Lay.two w (.cells sx.toArray 45 (0, 0)) (.cells sy.toArray 45 (0, 0))
  generalize hw1 : World.alloc _ _ = w1
  rw [hw1] at B F F' LB
  have RX1 := Lib.hid (RX.out _ _ F)
  have RY1 := Lib.hid (RY.out _ _ F')
  have LB := Lib.hid LB
  clear B F F' hw1
  go_wp2_with ((with_reducible show wpList _ _ _ _ _ _); first | (refine wpList_load_mid rfl 27 (.tmp 6) rfl w.heap.size 0 rfl px _ RX1.out Tryd.underlying27 rfl (by rw [PX.out]; kernel_rfl) ?_; go_frame) | (refine wpList_load_mid rfl 27 (.tmp 8) rfl (w.heap.size + 1) 0 rfl py _ RY1.out Tryd.underlying27 rfl (by rw [PY.out]; kernel_rfl) ?_; go_frame))
  refine (L1.out _).mono ?_
  rintro e w2 ⟨rfl, hb2⟩
  have RX2 : Hid (w2.rangeAt w.heap.size 0 px) := range_below RX1.out hb2.below
  have RY2 : Hid (w2.rangeAt (w.heap.size + 1) 0 py) := range_below RY1.out hb2.below
  have LB2 := Lib.hid (LB.out.trans hb2)
  clear hb2
  cases b with
  | true =>
    go_wp2_with fail
    go_ret
    exact ⟨by rw [HZ.out]; rfl, LB2.out⟩
  | false =>
    go_wp2_with ((with_reducible show wpList _ _ _ _ _ _); first | (refine wpList_load_mid rfl 27 (.tmp 12) rfl (w.heap.size + 1) 0 rfl py _ RY2.out Tryd.underlying27 rfl (by rw [PY.out]; kernel_rfl) ?_; go_frame) | (refine wpList_load_mid rfl 27 (.tmp 14) rfl w.heap.size 0 rfl px _ RX2.out Tryd.underlying27 rfl (by rw [PX.out]; kernel_rfl) ?_; go_frame))
    refine (L2.out _).mono ?_
    rintro e w3 ⟨rfl, hb3⟩
    have LB3 := Lib.hid (LB2.out.trans hb3)
    clear hb3
    cases b' with
    | true =>
      go_wp2_with fail
      go_ret
      exact ⟨by rw [HZ.out]; rfl, LB3.out⟩
    | false =>
      go_wp2_with fail
      go_ret
      exact ⟨by rw [HZ.out]; rfl, LB3.out⟩
end Go.Proofs.YtlmfchcafhidoaaDoor.Sha

/-
  The library's sort at coins with their places, by package coins' own order: a row that is the same coins, in the order of their places. Conditions: the row is one's own; no place twice; at most 2^20 coins.
-/
namespace Go.Proofs.YtlmfchcafhidoaaDoor.Sha
open Go Go.RowKit
open Go.Sort (grow SWO PermIn SortedIn HoldsK flatK putRowK putRow mapBlock size_flatK get_flatK heap_grow_old)
def sort_lay_ren : Go.Shelf.Ren := ⟨fun | 6 => 33 | 15 => 46 | 14 => 45 | 28 => 72 | 29 => 73 | 20 => 64 | 21 => 65 | 22 => 66 | 23 => 67 | 24 => 68 | 25 => 69 | 26 => 70 | 27 => 71 | 46 => 81 | 47 => 82 | 48 => 83 | 49 => 84 | 50 => 85 | 57 => 90 | n => n, fun | 22 => 34 | 24 => 45 | 25 => 79 | 3 => 3 | 39 => 94 | 0 => 0 | 53 => 25 | 55 => 37 | 4 => 4 | 46 => 119 | 45 => 118 | 50 => 74 | 5 => 5 | 9 => 9 | 66 => 132 | 70 => 135 | 76 => 139 | 77 => 140 | n => n, fun | n => n⟩
theorem sort_lay : Go.Proofs.SlLaysF0.n6 Tryd.prog sort_lay_ren := {
  mixed := by kernel_rfl
  f6 := ⟨Tryd.f33.name, by decide, Tryd.func33.trans (congrArg some (by kernel_rfl))⟩
  f14 := ⟨Tryd.f45.name, by decide, Tryd.func45.trans (congrArg some (by kernel_rfl))⟩
  f15 := Tryd.func46.trans (congrArg some (by kernel_rfl))
  f20 := ⟨Tryd.f64.name, by decide, Tryd.func64.trans (congrArg some (by kernel_rfl))⟩
  f21 := ⟨Tryd.f65.name, by decide, Tryd.func65.trans (congrArg some (by kernel_rfl))⟩
  f22 := ⟨Tryd.f66.name, by decide, Tryd.func66.trans (congrArg some (by kernel_rfl))⟩
  f23 := ⟨Tryd.f67.name, by decide, Tryd.func67.trans (congrArg some (by kernel_rfl))⟩
  f24 := ⟨Tryd.f68.name, by decide, Tryd.func68.trans (congrArg some (by kernel_rfl))⟩
  f25 := ⟨Tryd.f69.name, by decide, Tryd.func69.trans (congrArg some (by kernel_rfl))⟩
  f26 := ⟨Tryd.f70.name, by decide, Tryd.func70.trans (congrArg some (by kernel_rfl))⟩
  f27 := ⟨Tryd.f71.name, by decide, Tryd.func71.trans (congrArg some (by kernel_rfl))⟩
  f28 := Tryd.func72.trans (congrArg some (by kernel_rfl))
  f29 := Tryd.func73.trans (congrArg some (by kernel_rfl))
  f46 := ⟨Tryd.f81.name, by decide, Tryd.func81.trans (congrArg some (by kernel_rfl))⟩
  f47 := Tryd.func82.trans (congrArg some (by kernel_rfl))
  f48 := Tryd.func83.trans (congrArg some (by kernel_rfl))
  f49 := ⟨Tryd.f84.name, by decide, Tryd.func84.trans (congrArg some (by kernel_rfl))⟩
  f50 := ⟨Tryd.f85.name, by decide, Tryd.func85.trans (congrArg some (by kernel_rfl))⟩
  f57 := ⟨Tryd.f90.name, by decide, Tryd.func90.trans (congrArg some (by kernel_rfl))⟩
  t0 := Tryd.underlying0
  a0 := Tryd.isAgg0
  z0 := Tryd.sizeOf0
  v0 := Tryd.zeroValue0
  t3 := Tryd.underlying3
  a3 := Tryd.isAgg3
  z3 := Tryd.sizeOf3
  v3 := Tryd.zeroValue3
  t4 := Tryd.underlying4
  a4 := Tryd.isAgg4
  z4 := Tryd.sizeOf4
  v4 := Tryd.zeroValue4
  t5 := Tryd.underlying5
  a5 := Tryd.isAgg5
  z5 := Tryd.sizeOf5
  v5 := Tryd.zeroValue5
  t9 := Tryd.underlying9
  a9 := Tryd.isAgg9
  z9 := Tryd.sizeOf9
  v9 := Tryd.zeroValue9
  t22 := Tryd.underlying34
  a22 := Tryd.isAgg34
  z22 := Tryd.sizeOf34
  v22 := Tryd.zeroValue34
  t25 := Tryd.underlying79
  a25 := Tryd.isAgg79
  z25 := Tryd.sizeOf79
  v25 := Tryd.zeroValue79
  t39 := Tryd.underlying94
  a39 := Tryd.isAgg94
  z39 := Tryd.sizeOf94
  v39 := Tryd.zeroValue94
  t45 := Tryd.underlying118
  a45 := Tryd.isAgg118
  z45 := Tryd.sizeOf118
  v45 := Tryd.zeroValue118
  t46 := Tryd.underlying119
  a46 := Tryd.isAgg119
  z46 := Tryd.sizeOf119
  v46 := Tryd.zeroValue119
  t50 := Tryd.underlying74
  a50 := Tryd.isAgg74
  z50 := Tryd.sizeOf74
  v50 := Tryd.zeroValue74
  t53 := Tryd.underlying25
  a53 := Tryd.isAgg25
  z53 := Tryd.sizeOf25
  v53 := Tryd.zeroValue25
  t55 := Tryd.underlying37
  a55 := Tryd.isAgg37
  z55 := Tryd.sizeOf37
  v55 := Tryd.zeroValue37
  t66 := Tryd.underlying132
  a66 := Tryd.isAgg132
  z66 := Tryd.sizeOf132
  v66 := Tryd.zeroValue132
  t70 := Tryd.underlying135
  a70 := Tryd.isAgg135
  z70 := Tryd.sizeOf135
  v70 := Tryd.zeroValue135
  t76 := Tryd.underlying139
  a76 := Tryd.isAgg139
  z76 := Tryd.sizeOf139
  v76 := Tryd.zeroValue139
  t77 := Tryd.underlying140
  a77 := Tryd.isAgg140
  z77 := Tryd.sizeOf140
  v77 := Tryd.zeroValue140 }
/-- A coin with its place, as the model has one. -/
abbrev OSp : Type := {x : TSp // SpOk x}
def spZ : TSp := ⟨⟨List.replicate 32 0, 0⟩, mnZ⟩
theorem spZ_ok : SpOk spZ := ⟨⟨rfl, Nat.zero_le _⟩, mnZ_ok⟩
instance : Inhabited OSp := ⟨⟨spZ, spZ_ok⟩⟩
/-- One place ahead of another. -/
def ltSp (x y : TSp) : Bool := lessPt x.at_.h x.at_.n y.at_.h y.at_.n
def cfS (x y : OSp) : Int := if ltSp x.1 y.1 then -1 else if ltSp y.1 x.1 then 1 else 0
theorem lt_cfS (x y : OSp) : ltOf cfS x y = ltSp x.1 y.1 := by
  unfold ltOf cfS
  cases ltSp x.1 y.1
  · cases ltSp y.1 x.1 <;> rfl
  · rfl
theorem ltSp_trans {x y z : TSp} (hx : SpOk x) (hy : SpOk y) (hz : SpOk z) (h : ltSp x y = true) (k : ltSp y z = true) : ltSp x z = true :=
  lessPt_trans (by rw [hx.1.1, hy.1.1]) (by rw [hy.1.1, hz.1.1]) h k
theorem ltSp_asym {x y : TSp} (hx : SpOk x) (hy : SpOk y) (h : ltSp x y = true) : ltSp y x = false := lessPt_asym (by rw [hx.1.1, hy.1.1]) h
theorem ltSp_total {x y : TSp} (hx : SpOk x) (hy : SpOk y) (hne : x.at_ ≠ y.at_) (h : ltSp x y = false) : ltSp y x = true := by
  refine lessPt_total (by rw [hx.1.1, hy.1.1]) ?_ h
  by_cases e : x.at_.h = y.at_.h
  · by_cases e' : x.at_.n = y.at_.n
    · refine absurd ?_ hne
      cases hx0 : x.at_
      cases hy0 : y.at_
      rw [hx0, hy0] at e e'
      simp only at e e'
      rw [e, e']
    · simp [e']
  · simp [e]
theorem ltSp_self (x : TSp) : ltSp x x = false := lessPt_self _ _
theorem swoS : SWO (ltOf cfS) where
  irrefl x := by rw [lt_cfS]; exact ltSp_self _
  trans x y z h1 h2 := by rw [lt_cfS] at *; exact ltSp_trans x.2 y.2 z.2 h1 h2
  ntrans x y z h1 h2 := by
    rw [lt_cfS] at *
    cases h3 : ltSp x.1 z.1
    · rfl
    · by_cases e : y.1.at_ = z.1.at_
      · have : ltSp x.1 y.1 = ltSp x.1 z.1 := by unfold ltSp; rw [e]
        rw [this, h3] at h1
        cases h1
      · have h4 := ltSp_total y.2 z.2 e h2
        rw [ltSp_trans x.2 z.2 y.2 h3 h4] at h1
        cases h1
/-- In the order of their places. -/
def SortedC (l : List TSp) : Prop := l.Pairwise (fun x y => ltSp x y = true)
theorem sorted_one : ∀ {l l' : List TSp}, (∀ x ∈ l, SpOk x) → l.Perm l' → SortedC l → SortedC l' → l = l'
  | [], l', _, hp, _, _ => (List.nil_perm.1 hp).symm
  | x :: l, [], _, hp, _, _ => by simp at hp
  | x :: l, y :: l', ho, hp, h1, h2 => by
    obtain ⟨a1, a2⟩ := List.pairwise_cons.1 h1
    obtain ⟨b1, b2⟩ := List.pairwise_cons.1 h2
    have ox := ho x List.mem_cons_self
    have hxm : x ∈ y :: l' := hp.mem_iff.1 List.mem_cons_self
    have hym : y ∈ x :: l := hp.mem_iff.2 List.mem_cons_self
    have e : x = y := by
      rcases List.mem_cons.1 hxm with e | hx
      · exact e
      · rcases List.mem_cons.1 hym with e | hy
        · exact e.symm
        · have c1 := b1 x hx
          have c2 := a1 y hy
          rw [ltSp_asym ox (ho y hym) c2] at c1
          cases c1
    subst e
    rw [sorted_one (fun z hz => ho z (List.mem_cons_of_mem _ hz)) ((List.perm_cons _).1 hp) a2 b2]
theorem lift_ok : ∀ (l : List TSp), (∀ x ∈ l, SpOk x) → ∃ d : List OSp, d.map (·.1) = l
  | [], _ => ⟨[], rfl⟩
  | x :: l, h => by
    obtain ⟨d, hd⟩ := lift_ok l (fun y hy => h y (List.mem_cons_of_mem _ hy))
    exact ⟨⟨x, h x List.mem_cons_self⟩ :: d, by rw [List.map_cons, hd]⟩
def encS (x : OSp) : List Value := spL x.1
theorem encS_len (x : OSp) : (encS x).length = 68 := spL_length x.2
theorem map_encS (d : List OSp) : (d.map (·.1)).map spL = d.map encS := by rw [List.map_map]; rfl
theorem allK_encS (d : List OSp) : AllK 68 (d.map encS) := fun x hx => by
  obtain ⟨y, _, rfl⟩ := List.mem_map.1 hx
  exact encS_len y
theorem flat_cell {d : List OSp} {t : Nat} (ht : t < d.length * 68) : (d.map encS).flatten[t]? = some ((encS d.toArray[t / 68]!)[t % 68]!) := by
  have h1 : t / 68 < d.length := Nat.div_lt_of_lt_mul (by omega)
  have h2 : t % 68 < 68 := Nat.mod_lt _ (by omega)
  have h3 : (d.map encS)[t / 68]? = some (encS (d[t / 68]'h1)) := by rw [List.getElem?_map, List.getElem?_eq_getElem h1]; rfl
  have h4 := flatten_get (d.map encS) (t / 68) _ (allK_encS d) h3 (t % 68) h2
  rw [show t / 68 * 68 + t % 68 = t by omega] at h4
  have h5 : (encS (d[t / 68]'h1)).length = 68 := encS_len _
  rw [h4, getElem!_pos d.toArray (t / 68) (by simpa using h1)]
  simp only [List.getElem_toArray]
  rw [getElem!_pos (encS (d[t / 68]'h1)) (t % 68) (by omega), List.getElem?_eq_getElem (by omega)]
theorem holds_of_own {w : World} {g cap base : Nat} {T : TypeId} {d : List OSp} (h : RwOwn 68 T base w (.slice (some ⟨g, 0, none⟩) (d.map encS).length cap) (d.map encS)) (h0 : g < w.heap.size) : HoldsK encS 68 w g 0 d.toArray := by
  intro t ht
  simp only [size_flatK, List.size_toArray] at ht
  rw [get_flatK _ _ _ _ (by simpa using ht), Nat.zero_add]
  have hl : (d.map encS).length = d.length := List.length_map _
  refine ⟨?_, ?_⟩
  · rw [h.1.cellAt t (by rw [hl]; exact ht), flat_cell ht]
    rfl
  · rcases h.1.2 with ⟨hv, _⟩ | ⟨g', cap', cur, hv, _, hb, _⟩
    · cases hv
    · cases hv
      simp [World.frozen?, hb]
theorem rwAt_of_holds {w : World} {g cap : Nat} {d : List OSp} (h : HoldsK encS 68 w g 0 d.toArray) (hc : d.length ≤ cap) : RwAt 68 w (.slice (some ⟨g, 0, none⟩) (d.map encS).length cap) (d.map encS) := by
  refine ⟨allK_encS d, _, cap, rfl, by rw [List.length_map]; exact hc, fun _ => ⟨g, 0, rfl, fun i x hx j v hv => ?_⟩⟩
  have hi : i < d.length := by have := (List.getElem?_eq_some_iff.1 hx).1; rwa [List.length_map] at this
  have hj : j < 68 := by
    have := (List.getElem?_eq_some_iff.1 hv).1
    rwa [(allK_encS d).get hx] at this
  have ht : i * 68 + j < d.length * 68 := by omega
  have h1 := (h (i * 68 + j) (by simpa using ht)).1
  rw [get_flatK _ _ _ _ (by simpa using ht), Nat.zero_add] at h1
  rw [Nat.zero_add, h1]
  have h2 := flat_cell ht
  rw [flatten_get (d.map encS) i x (allK_encS d) hx j hj, hv] at h2
  exact h2.symm
theorem grown_sortK {w : World} {g n : Nat} {os : Array Obj} (d : Array OSp) : w.grownBy (sortWorldK encS 68 w g 0 n d os) (some g) := by
  refine ⟨rfl, rfl, rfl, ?_, fun k hk hne => ?_⟩
  · simp [sortWorldK, putRowK, putRow, mapBlock, Go.Sort.ahead]
  · unfold sortWorldK
    rw [heap_grow_old _ _ (by simpa [putRowK, putRow, mapBlock, Go.Sort.ahead] using hk)]
    have : g ≠ k := fun e => hne (by rw [e])
    simp [putRowK, putRow, mapBlock, Go.Sort.ahead, Array.getElem?_modify, this]
theorem size_spent (w : World) : (Go.sizeOf 45).run Tryd.prog w = .ok 68 w := by kernel_rfl
theorem isAgg_spent (w : World) : (isAgg 45).run Tryd.prog w = .ok true w := by kernel_rfl
theorem sort_any (g cap base : Nat) (T : TypeId) (l : List TSp) (ho : ∀ x ∈ l, SpOk x) (ha : l.Pairwise (fun x y => x.at_ ≠ y.at_)) (n : Nat) (hn : n = l.length) (hn2 : n ≤ 1048576) (w : World)
    (h : RwOwn 68 T base w (.slice (some ⟨g, 0, none⟩) n cap) (l.map spL)) :
    Calls Tryd.prog 33 #[.slice (some ⟨g, 0, none⟩) n cap, .func (.func 34) #[] #[]] w fun e w' =>
      e = .returned (.tuple #[]) ∧ ∃ l', l'.Perm l ∧ SortedC l' ∧ RwAt 68 w' (.slice (some ⟨g, 0, none⟩) n cap) (l'.map spL) ∧ w.grownBy w' (some g) := by
  obtain ⟨d, rfl⟩ := lift_ok l ho
  rw [List.length_map] at hn
  subst hn
  rw [map_encS] at h
  have hcap : d.length ≤ cap ∧ g < w.heap.size := by
    rcases h.1.2 with ⟨hv, _⟩ | ⟨g', cap', cur, hv, _, hb, h3, _⟩
    · cases hv
    · simp only [Value.slice.injEq, Option.some.injEq, Addr.mk.injEq] at hv
      obtain ⟨⟨rfl, _⟩, _, rfl⟩ := hv
      exact ⟨by simpa using h3, (Array.getElem?_eq_some_iff.1 hb).1⟩
  have hH := holds_of_own (d := d) (by rw [List.length_map]; exact h) hcap.2
  have eg : ∀ args w, (callFunc 34 args).run Tryd.prog w = .ok (.enter 34 args) w := enters_of Tryd.func34 (by kernel_rfl) rfl
  have hcmp : CmpLays Tryd.prog 34 #[] encS 68 cfS g 0 d.toArray.size w := fun m os dk hs x y => byplace_lay x.1 y.1 x.2 y.2 (cfS x y) rfl _
  have hc := AnyQ.slices_SortFunc sort_lay 68 isAgg_spent size_spent encS encS_len (fun x v hv => spL_one x.1 v hv) cfS swoS 34 #[] g 0 cap d.toArray w eg hcmp hH hcap.2 (by simp; omega)
  change Calls Tryd.prog 33 _ _ _ at hc
  rw [List.size_toArray] at hc
  refine hc.mono ?_
  rintro e w' ⟨rfl, d', q, os, hp, hs, rfl⟩
  refine ⟨rfl, d'.toList.map (·.1), ?_, ?_, ?_, grown_sortK d'⟩
  · have h1 := hp.2.2
    have e1 : d'.extract 0 d.length = d' := by
      have : d.length = d'.size := by have := hp.1; simp at this; omega
      rw [this]
      exact Array.extract_size
    simp only [List.extract_toArray, List.extract_eq_take_drop, Nat.sub_zero, List.drop_zero, List.take_length] at h1
    rw [e1] at h1
    exact h1.map _
  · have hd : (d'.toList.map (·.1)).Pairwise (fun x y => x.at_ ≠ y.at_) := by
      have h1 := hp.2.2
      have e1 : d'.extract 0 d.length = d' := by
        have : d.length = d'.size := by have := hp.1; simp at this; omega
        rw [this]
        exact Array.extract_size
      simp only [List.extract_toArray, List.extract_eq_take_drop, Nat.sub_zero, List.drop_zero, List.take_length] at h1
      rw [e1] at h1
      exact ((h1.map (·.1)).pairwise_iff (fun {a b} h => Ne.symm h)).2 ha
    unfold SortedC
    rw [List.pairwise_iff_getElem] at hd ⊢
    intro i j hi hj hij
    have hi' : i < d'.size := by simpa using hi
    have hj' : j < d'.size := by simpa using hj
    have h2 := hs i j (Nat.zero_le _) hij (by have := hp.1; simp at this; omega)
    rw [lt_cfS, getElem!_pos d' j hj', getElem!_pos d' i hi'] at h2
    have h3 := hd i j hi hj hij
    simp only [List.getElem_map, Array.getElem_toList] at h3 ⊢
    exact ltSp_total (d'[j]'hj').2 (d'[i]'hi').2 (fun e => h3 e.symm) h2
  · rw [map_encS]
    have hs' : d'.size = d.length := by have := hp.1; simpa using this
    have h5 := rwAt_of_holds (d := d'.toList) (w := sortWorldK encS 68 w g 0 q d' os) (g := g) (cap := cap) (by
      have := holdsK_sortWorldK encS 68 w g 0 q d.toArray d' os hcap.2 hH (by simp [hs'])
      simpa using this) (by simp [hs']; exact hcap.1)
    rw [List.length_map, Array.length_toList, hs'] at h5
    exact h5
end Go.Proofs.YtlmfchcafhidoaaDoor.Sha
