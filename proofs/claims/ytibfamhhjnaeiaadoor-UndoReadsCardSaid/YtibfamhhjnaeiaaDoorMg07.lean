/-
  Texts of this proof joined into one file: CnAdd, CnBuilt, CmpTake, CmpRead, CmpRead2, CmpHash, RdrState. What each holds, and under which conditions, its own first sentence tells.
-/
import Derived.WalkSpells
import Derived.Carry
import Derived.Deep.RegionLaw
import Derived.Test.YtibfamhhjnaeiaaDoorMg06
import Derived.Test.YtibfamhhjnaeiaaDoorMg05
import Derived.Test.YtibfamhhjnaeiaaDoorMg01
import Derived.Test.YtibfamhhjnaeiaaDoorMg04
/-
  A coin is added to a set: its map turns, or is made. Conditions: the set lies where the pointer says; a place, a coin as the model has them; the errors are there.
-/
namespace Go.Proofs.YtibfamhhjnaeiaaDoor.Sha
open Go Go.RowKit
/-- What a set says to a coin more. -/
def addR (l : List TSp) (p : TPt) (k : TMn) : Nat := if 2100000000000000 < k.val then 5 else if (getC l p).isSome then 6 else 0
def addL (l : List TSp) (p : TPt) (k : TMn) : List TSp := if addR l p k = 0 then l ++ [⟨p, k⟩] else l
theorem Kps.trans' {F : Nat → Prop} {w w1 w2 : World} {q : Nat} (h : Kps F w w1) (k : Kps (fun j => j ≠ q) w1 w2) (hq : w.heap.size < q) : Kps F w w2 :=
  ⟨k.os.trans h.os, k.tape.trans h.tape, k.output.trans h.output, Nat.le_trans h.size k.size, fun j hj hf => (k.block j (Nat.lt_of_lt_of_le hj h.size) (by omega)).trans (h.block j hj hf)⟩
set_option maxHeartbeats 2000000 in
set_option maxRecDepth 100000 in
theorem setadd_any (E : Nat → Addr) (w : World) (a : Nat) (m : Option Nat) (l : List TSp) (p : TPt) (k : TMn) (hE : EC w E) (hs : SetAt w a m l) (hp : PtOk p) (hk : MnOk k) :
    Calls Tryd.prog 49 #[.pointer (some ⟨a, 0, none⟩), .agg (ptC p).toArray, .agg (mnL k).toArray] w fun e w' =>
      e = .returned (errV E (addR l p k)) ∧ ∃ m', SetAt w' a m' (addL l p k) ∧ (m' = m ∨ ∃ b, m' = some b ∧ w.heap.size ≤ b) ∧ Kps (fun j => j ≠ a ∧ m ≠ some j) w w' := by
  have HP := Lib.hid hp
  have HK := Lib.hid hk
  have HE := Lib.hid hE
  have KSZ : Hid ((mnL k).toArray.size = 35) := mnL_size hk
  have AR : Hid (addR l p k = if 2100000000000000 < k.val then 5 else if (getC l p).isSome then 6 else 0) := rfl
  have AL : Hid (addL l p k = if addR l p k = 0 then l ++ [⟨p, k⟩] else l) := rfl
  have GN : Hid ((getC l p).isSome = false → getC l p = none) := getC_opt
  obtain ⟨ck, hck⟩ : ∃ ck, ck = mnL k := ⟨_, rfl⟩
  rw [← hck] at KSZ ⊢
  obtain ⟨r, hr⟩ : ∃ r, r = addR l p k := ⟨_, rfl⟩
  obtain ⟨l', hl'⟩ : ∃ l', l' = addL l p k := ⟨_, rfl⟩
  rw [← hr] at AR AL
  rw [← hl'] at AL
  rw [← hr, ← hl']
  have CKK := Lib.hid hck
  clear hr hl' hck
  have HS := Lib.hid hs
  have PSZ : Hid ((ptC p).toArray.size = 33) := ptC_size hp
  have CK : Hid (MnOk ((getC l p).getD mnZ)) := getD_ok hs.map.ok p
  obtain ⟨c, hc⟩ : ∃ c, c = (getC l p).getD mnZ := ⟨_, rfl⟩
  obtain ⟨b, hb⟩ : ∃ b, b = (getC l p).isSome := ⟨_, rfl⟩
  rw [← hc] at CK
  have LK : Hid (∀ W, Below w.heap.size w W → (Instr.lookup 45 (.map m) (.agg (ptC p).toArray) true).run Tryd.prog W = .ok (.tuple #[.agg (mnL c).toArray, .bool b]) W) := fun W hW => by
    rw [hc, hb]
    exact map_look (hs.below hW).map p hp
  rw [← hb] at GN AR
  have CSZ : Hid ((mnL c).toArray.size = 35) := mnL_size CK.out
  have CLN : Hid ((mnL c).length = 35) := mnL_length CK.out
  have CONE : Hid ((mnL c).toArray.all (·.oneCell') = true) := mnL_all c
  obtain ⟨cm, hcm⟩ : ∃ cm, cm = mnL c := ⟨_, rfl⟩
  obtain ⟨cp, hcp⟩ : ∃ cp, cp = ptC p := ⟨_, rfl⟩
  rw [← hcm] at LK CSZ CLN CONE
  rw [← hcp] at LK PSZ ⊢
  have CP := Lib.hid hcp
  clear hE hk hs hp hc hb hcm hcp
  obtain ⟨z, hz⟩ : ∃ z, z = k.val := ⟨_, rfl⟩
  have ZV := Lib.hid hz
  rw [← hz] at AR
  have KC : Hid (∀ (W : World) (g : Nat), W.heap[g]? = some (.cells ck.toArray 31 (0, 0)) → W.cell? ⟨g, 0, none⟩ = some (.int .u64 (z : Int))) := fun W g h => by
    rw [cell_of_row _ _ _ _ _ _ h, CKK.out, hz]
    rfl
  clear hz
  go_enter Tryd.func49, Tryd.ntmps49
  go_upto_region 1 with fail
  have f3 := row_below (heap_alloc_new w (.cells cp.toArray 28 (0, 0))) ((Below.refl _ _).alloc (Nat.le_refl _) (.cells ck.toArray 31 (0, 0)))
  have f4 := heap_alloc_new (w.alloc (.cells cp.toArray 28 (0, 0))) (.cells ck.toArray 31 (0, 0))
  have b0 := ((Below.refl w.heap.size w).alloc (Nat.le_refl _) (.cells cp.toArray 28 (0, 0))).alloc (by simp) (.cells ck.toArray 31 (0, 0))
  rw [World.size_alloc] at f4
  generalize hw1 : World.alloc _ _ = w1
  have e1 : (w.alloc (.cells cp.toArray 28 (0, 0))).alloc (.cells ck.toArray 31 (0, 0)) = w1 := hw1
  rw [e1] at f3 f4 b0
  obtain ⟨g3, hg3⟩ : ∃ g3, g3 = w.heap.size := ⟨_, rfl⟩
  have G3 : Hid (w.heap.size ≤ g3) := by show _ ≤ _; rw [hg3]; exact Nat.le_refl _
  rw [← hg3] at f3 f4 ⊢
  have F3 := Lib.hid f3
  have F4 := Lib.hid f4
  have B0 := Lib.hid b0
  have HS1 := Lib.hid (HS.out.below b0)
  have LK1 : Hid (∀ W, Below w1.heap.size w1 W → (Instr.lookup 45 (.map m) (.agg cp.toArray) true).run Tryd.prog W = .ok (.tuple #[.agg cm.toArray, .bool b]) W) := fun W hW => LK.out W (B0.out.trans (hW.mono B0.out.size))
  have z0 := KC.out w1 _ f4
  have cv : w1.cell? ⟨3, 0, none⟩ = some (.iface 142 (.pointer (some (E 4)))) := (HE.out.below b0).value
  clear f3 f4 b0 hw1 e1 hg3
  by_cases hv : 2100000000000000 < z
  · have hv' : (2100000000000000 : Int) < (z : Int) := by omega
    have HV := Lib.hid hv
    clear hv
    go_wp2_with fail
    go_ret
    have er : r = 5 := by rw [AR.out, if_pos HV.out]
    have el : l' = l := by rw [AL.out, er]; rfl
    subst er el
    exact ⟨rfl, m, HS1.out, .inl rfl, Kps.new B0.out⟩
  · have hv' : ¬ (2100000000000000 : Int) < (z : Int) := by omega
    have HV := Lib.hid hv
    clear hv
    go_upto_region 3 with fail
    clear z0 cv hv'
    refine wp_region_held_drew (S := (fun w' => Below w1.heap.size w1 w')) (by kernel_rfl) (Below.drew (Below.refl _ _)) (fun hHeld => ?_)
    generalize hwd : w1.drew = wd at  hHeld ⊢
    clear hwd
    refine held_take (i := 0) (v := (.pointer (some ⟨a, 0, none⟩))) rfl (by kernel_rfl) (by kernel_rfl) (by kernel_rfl) (fun _ _ _ h => h) (Or.inl ⟨by rfl, fun w' _ => by kernel_rfl⟩) hHeld ?_
    go_frame
    refine held_take (i := 1) (v := (.pointer (some ⟨a, 0, none⟩))) rfl (by kernel_rfl) (by kernel_rfl) (by kernel_rfl) (fun _ _ _ h => h) (Or.inl ⟨by rfl, fun w' _ => by kernel_rfl⟩) hHeld ?_
    go_frame
    refine held_take (i := 2) (v := (.pointer (some ⟨a, 0, none⟩))) rfl (by kernel_rfl) (by kernel_rfl) (by kernel_rfl) (fun _ _ _ h => h) (Or.inl ⟨by rfl, fun w' _ => by kernel_rfl⟩) hHeld ?_
    go_frame
    refine held_take (i := 3) (v := (.map m)) rfl (by kernel_rfl) (by kernel_rfl) (by kernel_rfl) (fun _ _ _ h => h) (yieldsIf_load_one (by rfl) 45 (.tmp 16) rfl a (0) rfl _ _ (fun w' hw' => (HS1.out.below hw').cell) Tryd.underlying45 rfl) hHeld ?_
    go_frame
    refine held_take (i := 4) (v := (.agg cp.toArray)) rfl (by kernel_rfl) (by kernel_rfl) (by kernel_rfl) (fun _ _ _ h => h) (yieldsIf_load_row (by rfl) 28 (.tmp 4) rfl g3 rfl 28 cp.toArray (0, 0) _ (fun w' hw' => row_below F3.out hw') Tryd.underlying28 rfl (by rw [PSZ.out]; kernel_rfl)) hHeld ?_
    go_frame
    refine held_take (i := 5) (v := (.tuple #[.agg cm.toArray, .bool b])) rfl (by kernel_rfl) (by kernel_rfl) (by kernel_rfl) (fun _ _ _ h => h) (yieldsIf_lookup (by rfl) 45 (.tmp 17) (.tmp 18) true rfl _ _ _ rfl rfl (fun w' hw' => LK1.out w' hw')) hHeld ?_
    go_frame
    refine held_take (i := 6) (v := (.tuple #[.agg cm.toArray, .bool b])) rfl (by kernel_rfl) (by kernel_rfl) (by kernel_rfl) (fun _ _ _ h => h) (Or.inl ⟨by rfl, fun w' _ => by kernel_rfl⟩) hHeld ?_
    go_frame
    refine held_take (i := 7) (v := (.agg cm.toArray)) rfl (by kernel_rfl) (by kernel_rfl) (by kernel_rfl) (fun _ _ _ h => h) (Or.inl ⟨by rfl, fun w' _ => by kernel_rfl⟩) hHeld ?_
    go_frame
    refine held_take (i := 8) (v := (.bool b)) rfl (by kernel_rfl) (by kernel_rfl) (by kernel_rfl) (fun _ _ _ h => h) (Or.inl ⟨by rfl, fun w' _ => by kernel_rfl⟩) hHeld ?_
    go_frame
    refine wpAnyH_ready (rs := [9]) (by kernel_rfl) (by simp) (held_cons rfl (fun K hK => ?_) AllReadyH.nil)
    go_simp
    have nf := heap_alloc_new wd (.cells (mnL mnZ).toArray 31 (0, 0))
    have bb := (Below.refl wd.heap.size wd).alloc (Nat.le_refl _) (.cells (mnL mnZ).toArray 31 (0, 0))
    obtain ⟨gv1, hgv1⟩ : ∃ g, g = wd.heap.size := ⟨_, rfl⟩
    have GF6 : Hid (w1.heap.size ≤ gv1) := by show _ ≤ _; rw [hgv1]; exact hHeld.size
    generalize hqv1 : World.alloc _ _ = v1
    have ev1 : wd.alloc (.cells (mnL mnZ).toArray 31 (0, 0)) = v1 := hqv1
    rw [ev1] at nf bb
    rw [← hgv1] at nf ⊢
    have F6 := Lib.hid nf
    have hv1 := hHeld.trans (bb.mono hHeld.size)
    clear nf bb hqv1 ev1 hgv1 hHeld
    refine hK.out _ _ hv1 (fun hHeld => ?_)
    clear hK K hv1
    refine wpAnyH_ready (rs := [10]) (by kernel_rfl) (by simp) (held_cons rfl (fun K hK => ?_) AllReadyH.nil)
    rw [if_pos (by rfl)]
    refine wp_store_whole 31 (.tmp 7) (.tmp 20) rfl gv1 (mnL mnZ) cm 31 rfl rfl (by rw [mnL_length mnZ_ok, CLN.out]) F6.out (by rw [CLN.out]; kernel_rfl) (CONE.out) ?_
    intro v2 q1 q2
    have F6 := Lib.hid q1
    have hv2 := hHeld.grown q2 hHeld.size (fun k hk => by cases hk; exact GF6.out)
    clear q1 q2 hHeld
    go_frame
    refine hK.out _ _ hv2 (fun hHeld => ?_)
    clear hK K hv2
    refine held_take (i := 11) (v := (.bool b)) rfl (by kernel_rfl) (by kernel_rfl) (by kernel_rfl) (fun _ _ _ h => h) (Or.inl ⟨by rfl, fun w' _ => by kernel_rfl⟩) hHeld ?_
    go_frame
    refine wpAnyH_done (by kernel_rfl) ?_ _
    obtain ⟨v9, hv9⟩ : ∃ v9, v9 = v2 := ⟨_, rfl⟩
    rw [← hv9] at F6 hHeld ⊢
    clear hv9
    have B1 := Lib.hid (B0.out.trans (hHeld.mono B0.out.size))
    have F4 := Lib.hid (row_below F4.out hHeld)
    have F3 := Lib.hid (row_below F3.out hHeld)
    have HS2 := Lib.hid (HS1.out.below hHeld)
    clear hHeld
    cases b with
    | true =>
      have ct : v9.cell? ⟨4, 0, none⟩ = some (.iface 142 (.pointer (some (E 5)))) := (HE.out.below B1.out).twice
      go_wp2_with fail
      go_ret
      have er : r = 6 := by rw [AR.out, if_neg HV.out]; rfl
      have el : l' = l := by rw [AL.out, er]; rfl
      subst er el
      exact ⟨rfl, m, HS2.out, .inl rfl, Kps.new B1.out⟩
    | false =>
      have er : r = 0 := by rw [AR.out, if_neg HV.out]; rfl
      have el : l' = l ++ [⟨p, k⟩] := by rw [AL.out, er]; rfl
      subst er el
      have AL2 : Hid (a < w.heap.size) := (Array.getElem?_eq_some_iff.1 HS.out.box).1
      have GS : Hid (w.heap.size < v9.heap.size) := Nat.lt_of_le_of_lt G3.out (Array.getElem?_eq_some_iff.1 F3.out).1
      have cb := HS2.out.cell
      have qn : ∀ (W : World) (q : Option Nat), (binOp .eql 45 (.map q) (.map none)).run Tryd.prog W = .ok (.bool q.isNone) W := fun W q => run_eql_map_nil W _ _ _ q map_under
      cases m with
      | some q =>
        have QL : Hid (q < w.heap.size) := HS.out.map.lt q rfl
        have AQ : Hid (a ≠ q) := fun e => HS2.out.ne (by rw [e])
        have Q3 : Hid (g3 ≠ q) := by have := QL.out; have := G3.out; show g3 ≠ q; omega
        have Q4 : Hid (g3 + 1 ≠ q) := by have := QL.out; have := G3.out; show g3 + 1 ≠ q; omega
        have MA : Hid (MapAt v9 q l) := HS2.out.map
        have BX := Lib.hid HS2.out.box
        have K0 : Hid (Kps (fun j => j ≠ a ∧ some q ≠ some j) w v9) := Kps.new B1.out
        go_upto_region 8 with fail
        clear cb qn
        refine wp_region_held_drew (S := (fun w' => Kps (fun j => j ≠ q) v9 w')) (by kernel_rfl) (Kps.new (Below.drew (Below.refl _ _))) (fun hHeld => ?_)
        have MA := Lib.hid (MA.out.kps (F := fun _ => True) (Kps.new (Below.drew (Below.refl _ _))) trivial)
        generalize hwd : v9.drew = wd at MA hHeld ⊢
        clear hwd
        refine held_take (i := 0) (v := (.pointer (some ⟨a, 0, none⟩))) rfl (by kernel_rfl) (by kernel_rfl) (by kernel_rfl) (fun _ _ _ h => h) (Or.inl ⟨by rfl, fun w' _ => by kernel_rfl⟩) hHeld ?_
        go_frame
        refine held_take (i := 1) (v := (.pointer (some ⟨a, 0, none⟩))) rfl (by kernel_rfl) (by kernel_rfl) (by kernel_rfl) (fun _ _ _ h => h) (Or.inl ⟨by rfl, fun w' _ => by kernel_rfl⟩) hHeld ?_
        go_frame
        refine held_take (i := 2) (v := (.pointer (some ⟨a, 0, none⟩))) rfl (by kernel_rfl) (by kernel_rfl) (by kernel_rfl) (fun _ _ _ h => h) (Or.inl ⟨by rfl, fun w' _ => by kernel_rfl⟩) hHeld ?_
        go_frame
        refine held_take (i := 3) (v := (.map (some q))) rfl (by kernel_rfl) (by kernel_rfl) (by kernel_rfl) (fun _ _ _ h => h) (yieldsIf_load_one (by rfl) 45 (.tmp 35) rfl a (0) rfl _ _ (fun w' hw' => by rw [cell_of_row _ _ _ _ _ _ (row_kps BX.out hw' AQ.out)]; rfl) Tryd.underlying45 rfl) hHeld ?_
        go_frame
        refine held_take (i := 4) (v := (.agg cp.toArray)) rfl (by kernel_rfl) (by kernel_rfl) (by kernel_rfl) (fun _ _ _ h => h) (yieldsIf_load_row (by rfl) 28 (.tmp 4) rfl g3 rfl 28 cp.toArray (0, 0) _ (fun w' hw' => row_kps F3.out hw' Q3.out) Tryd.underlying28 rfl (by rw [PSZ.out]; kernel_rfl)) hHeld ?_
        go_frame
        refine held_take (i := 5) (v := (.agg ck.toArray)) rfl (by kernel_rfl) (by kernel_rfl) (by kernel_rfl) (fun _ _ _ h => h) (yieldsIf_load_row (by rfl) 31 (.tmp 5) rfl (g3 + 1) rfl 31 ck.toArray (0, 0) _ (fun w' hw' => row_kps F4.out hw' Q4.out) Tryd.underlying31 rfl (by rw [KSZ.out]; kernel_rfl)) hHeld ?_
        go_frame
        refine wpAnyH_ready (rs := [6]) (by kernel_rfl) (by simp) (held_cons rfl (fun K hK => ?_) AllReadyH.nil)
        rw [if_pos (by rfl)]
        refine wp_put_cn (.tmp 36) (.tmp 37) (.tmp 38) rfl q l p HP.out k HK.out (GN.out rfl) rfl (by rw [← CP.out]; rfl) (by rw [← CKK.out]; rfl) MA.out ?_
        intro v1 q1 q2
        have MB := Lib.hid q1
        have hv1 : Kps (fun j => j ≠ q) v9 v1 := hHeld.trans (Kps.grown q2 fun j _ hj e => hj (Option.some.inj e))
        clear q1 q2 hHeld MA
        go_frame
        refine hK.out _ _ hv1 (fun hHeld => ?_)
        clear hK K hv1
        refine wpAnyH_done (by kernel_rfl) ?_ _
        have BY := Lib.hid (row_kps BX.out hHeld AQ.out)
        have HH := Lib.hid hHeld
        clear hHeld
        go_wp2_with fail
        go_ret
        exact ⟨rfl, some q, ⟨BY.out, MB.out⟩, .inl rfl, (Kps.new B1.out).trans (HH.out.mono fun j _ hj e => hj.2 (by rw [e]))⟩
      | none =>
        obtain rfl : l = [] := HS.out.map
        have hmm := @run_makeMap Tryd.prog
        have bx := row_below HS2.out.box ((Below.refl _ _).alloc (Nat.le_refl _) (.map #[] 0))
        have ma := map_made v9
        have b9 := (Below.refl v9.heap.size v9).alloc (Nat.le_refl _) (.map #[] 0)
        have BX0 := Lib.hid bx
        have MA0 := Lib.hid ma
        have B9 := Lib.hid b9
        clear bx ma b9
        go_upto_region 8 with ((with_reducible show wpList _ _ _ _ _ _); refine wpList_store_part rfl 45 (.tmp 32) (.tmp 30) rfl a 0 [] [.map none] [] [.map (some v9.heap.size)] 47 (.map (some v9.heap.size)) rfl rfl rfl rfl rfl BX0.out (by kernel_rfl) (by simp [Value.oneCell']) ?_; intro w5 q1 q2; have Q1 := Lib.hid q1; have Q2 := Lib.hid q2; clear q1 q2; go_frame)
        clear cb qn hmm
        obtain ⟨q, hq⟩ : ∃ q, q = v9.heap.size := ⟨_, rfl⟩
        rw [← hq] at Q1 MA0
        have QL : Hid (w.heap.size < q) := by show _ < _; rw [hq]; exact GS.out
        have AQ : Hid (a ≠ q) := by have := AL2.out; have := QL.out; show a ≠ q; omega
        have Q3 : Hid (g3 ≠ q) := by have := (Array.getElem?_eq_some_iff.1 F3.out).1; show g3 ≠ q; omega
        have Q4 : Hid (g3 + 1 ≠ q) := by have := (Array.getElem?_eq_some_iff.1 F4.out).1; show g3 + 1 ≠ q; omega
        have KA : Hid (Kps (fun j => j ≠ a) v9 w5) := (Kps.new B9.out).trans (Kps.grown Q2.out fun j _ hj e => hj (Option.some.inj e))
        have MA : Hid (MapAt w5 q []) := MA0.out.kps (F := fun j => j ≠ a) (Kps.grown Q2.out fun j _ hj e => hj (Option.some.inj e)) (fun e => AQ.out e.symm)
        have BX : Hid (w5.heap[a]? = some (.cells #[.map (some q)] 47 (0, 0))) := Q1.out
        have F3 := Lib.hid (row_kps F3.out KA.out (by have := AL2.out; have := G3.out; show g3 ≠ a; omega))
        have F4 := Lib.hid (row_kps F4.out KA.out (by have := AL2.out; have := G3.out; show g3 + 1 ≠ a; omega))
        have V5 : Hid (w.heap.size ≤ v9.heap.size) := Nat.le_of_lt GS.out
        clear hq Q1 Q2 BX0 MA0
        refine wp_region_held_drew (S := (fun w' => Kps (fun j => j ≠ q) w5 w')) (by kernel_rfl) (Kps.new (Below.drew (Below.refl _ _))) (fun hHeld => ?_)
        have MA := Lib.hid (MA.out.kps (F := fun _ => True) (Kps.new (Below.drew (Below.refl _ _))) trivial)
        generalize hwd : w5.drew = wd at MA hHeld ⊢
        clear hwd
        refine held_take (i := 0) (v := (.pointer (some ⟨a, 0, none⟩))) rfl (by kernel_rfl) (by kernel_rfl) (by kernel_rfl) (fun _ _ _ h => h) (Or.inl ⟨by rfl, fun w' _ => by kernel_rfl⟩) hHeld ?_
        go_frame
        refine held_take (i := 1) (v := (.pointer (some ⟨a, 0, none⟩))) rfl (by kernel_rfl) (by kernel_rfl) (by kernel_rfl) (fun _ _ _ h => h) (Or.inl ⟨by rfl, fun w' _ => by kernel_rfl⟩) hHeld ?_
        go_frame
        refine held_take (i := 2) (v := (.pointer (some ⟨a, 0, none⟩))) rfl (by kernel_rfl) (by kernel_rfl) (by kernel_rfl) (fun _ _ _ h => h) (Or.inl ⟨by rfl, fun w' _ => by kernel_rfl⟩) hHeld ?_
        go_frame
        refine held_take (i := 3) (v := (.map (some q))) rfl (by kernel_rfl) (by kernel_rfl) (by kernel_rfl) (fun _ _ _ h => h) (yieldsIf_load_one (by rfl) 45 (.tmp 35) rfl a (0) rfl _ _ (fun w' hw' => by rw [cell_of_row _ _ _ _ _ _ (row_kps BX.out hw' AQ.out)]; rfl) Tryd.underlying45 rfl) hHeld ?_
        go_frame
        refine held_take (i := 4) (v := (.agg cp.toArray)) rfl (by kernel_rfl) (by kernel_rfl) (by kernel_rfl) (fun _ _ _ h => h) (yieldsIf_load_row (by rfl) 28 (.tmp 4) rfl g3 rfl 28 cp.toArray (0, 0) _ (fun w' hw' => row_kps F3.out hw' Q3.out) Tryd.underlying28 rfl (by rw [PSZ.out]; kernel_rfl)) hHeld ?_
        go_frame
        refine held_take (i := 5) (v := (.agg ck.toArray)) rfl (by kernel_rfl) (by kernel_rfl) (by kernel_rfl) (fun _ _ _ h => h) (yieldsIf_load_row (by rfl) 31 (.tmp 5) rfl (g3 + 1) rfl 31 ck.toArray (0, 0) _ (fun w' hw' => row_kps F4.out hw' Q4.out) Tryd.underlying31 rfl (by rw [KSZ.out]; kernel_rfl)) hHeld ?_
        go_frame
        refine wpAnyH_ready (rs := [6]) (by kernel_rfl) (by simp) (held_cons rfl (fun K hK => ?_) AllReadyH.nil)
        rw [if_pos (by rfl)]
        refine wp_put_cn (.tmp 36) (.tmp 37) (.tmp 38) rfl q [] p HP.out k HK.out (GN.out rfl) rfl (by rw [← CP.out]; rfl) (by rw [← CKK.out]; rfl) MA.out ?_
        intro v1 q1 q2
        have MB := Lib.hid q1
        have hv1 : Kps (fun j => j ≠ q) w5 v1 := hHeld.trans (Kps.grown q2 fun j _ hj e => hj (Option.some.inj e))
        clear q1 q2 hHeld MA
        go_frame
        refine hK.out _ _ hv1 (fun hHeld => ?_)
        clear hK K hv1
        refine wpAnyH_done (by kernel_rfl) ?_ _
        have BY := Lib.hid (row_kps BX.out hHeld AQ.out)
        have HH := Lib.hid hHeld
        clear hHeld
        go_wp2_with fail
        go_ret
        exact ⟨rfl, some q, ⟨BY.out, MB.out⟩, .inr ⟨q, rfl, Nat.le_of_lt QL.out⟩, ((Kps.new B1.out).trans (KA.out.mono fun j _ hj => hj)).trans' HH.out QL.out⟩
end Go.Proofs.YtibfamhhjnaeiaaDoor.Sha

/-
  A coin with its place built out of its parts. No conditions beyond those that each states.
-/
namespace Go.Proofs.YtibfamhhjnaeiaaDoor.Sha
open Go Go.RowKit
def ptZ : TPt := ⟨List.replicate 32 0, 0⟩
theorem built_sp (x : TSp) (hx : SpOk x) : Tryd.prog.built 33 [(0, .agg (ptC x.at_).toArray), (1, .agg (mnL x.coin).toArray)] = some (spL x).toArray := by
  have hz : ∀ parts, Tryd.prog.built 33 parts = Instr.fill ([(0, 33), (33, 35)].toArray[·]?) (ptC ptZ ++ mnL mnZ).toArray parts := fun parts => by kernel_rfl
  have l1 := ptC_length hx.1
  have l2 := mnL_length hx.2
  have l3 : (ptC ptZ).length = 33 := rfl
  have l4 : (mnL mnZ).length = 35 := rfl
  rw [hz, fill_part _ 0 0 (.agg (ptC x.at_).toArray) (ptC x.at_) _ _ rfl (by rw [l1]; rfl) (by rw [List.length_append]; omega), List.take_zero, List.nil_append, l1, Nat.zero_add,
    fill_part _ 1 33 (.agg (mnL x.coin).toArray) (mnL x.coin) _ _ rfl (by rw [l2]; rfl) (by rw [List.length_append, List.length_drop, List.length_append]; omega)]
  have e1 : (ptC x.at_ ++ (ptC ptZ ++ mnL mnZ).drop 33).take 33 = ptC x.at_ := by rw [List.take_append_of_le_length (by omega), List.take_of_length_le (by omega)]
  have e2 : (ptC x.at_ ++ (ptC ptZ ++ mnL mnZ).drop 33).drop (33 + (mnL x.coin).length) = [] := List.drop_eq_nil_of_le (by rw [List.length_append, List.length_drop, List.length_append]; omega)
  rw [e1, e2, List.append_nil]
  rfl
theorem ptZ_ok : PtOk ptZ := ⟨rfl, Nat.zero_le _⟩
end Go.Proofs.YtibfamhhjnaeiaaDoor.Sha

/-
  A Reader's inner call takes so many bytes, or tells that there are too few, or that an error was met; Left and Err tell what is left and the first error; Read makes a Reader. Conditions: the Reader stands as it should; the three errors are there.
-/
namespace Go.Proofs.YtibfamhhjnaeiaaDoor.Sha
open Go Go.RowKit
set_option maxRecDepth 100000 in
theorem left_any (E : Nat → Addr) (m : Nat) (bs : List UInt8) (c r : Nat) (w : World) (h : RdI E m w r bs c) :
    Calls Tryd.prog 20 #[.pointer (some ⟨r, 0, none⟩)] w fun e w' => e = .returned (.int .i64 (bs.length : Nat)) ∧ w = w' := by
  obtain ⟨v, h1, h2, h3⟩ := h
  obtain ⟨sp, n, cap, rfl, hn, _⟩ := h2.shape'
  have c0 : w.cell? ⟨r, 0, none⟩ = some (.slice sp n cap) := by rw [cell_of_row _ _ _ _ _ _ h1]; rfl
  rw [← hn]
  clear h1 h2 h3 hn
  go_enter Tryd.func20, Tryd.ntmps20
  go_wp2
  go_ret
  exact ⟨rfl, rfl⟩
set_option maxRecDepth 100000 in
theorem err_any (E : Nat → Addr) (m : Nat) (bs : List UInt8) (c r : Nat) (w : World) (h : RdI E m w r bs c) :
    Calls Tryd.prog 19 #[.pointer (some ⟨r, 0, none⟩)] w fun e w' => e = .returned (errV E c) ∧ w = w' := by
  obtain ⟨v, h1, h2, h3⟩ := h
  obtain ⟨x, hx⟩ : ∃ x, x = errV E c := ⟨_, rfl⟩
  rw [← hx] at h1 ⊢
  have c0 : w.cell? ⟨r, 1, none⟩ = some x := by rw [cell_of_row _ _ _ _ _ _ h1]; rfl
  clear h1 h2 h3 hx
  go_enter Tryd.func19, Tryd.ntmps19
  go_wp2
  go_ret
  exact ⟨rfl, rfl⟩
/-- Where an own row lies. -/
theorem own_at {w : World} {base n : Nat} {v : Value} {xs : List Value} {e : TypeId} (h : w.ownsRow base e 1 v n xs) : ∃ m, AtB v m ∧ m ≠ w.heap.size ∧ (0 < n → base ≤ m) := by
  rcases h.2 with ⟨h', h0⟩ | ⟨g, cap', cur, h', hg, hc, _⟩
  · exact ⟨w.heap.size + 1, (fun sp k cap hv hk => by rw [hv] at h'; cases h'), by omega, fun h1 => by omega⟩
  · refine ⟨g, (fun sp k cap hv hk => ?_), ?_, fun _ => hg⟩
    · rw [hv] at h'; cases h'; rfl
    · have := (Array.getElem?_eq_some_iff.1 hc).1
      omega
/-- A Reader that stands on a copy of its own. -/
def NewRd (E : Nat → Addr) (m : Nat) (w w' : World) (r : Nat) (bs : List UInt8) : Prop := RdI E m w' r bs 0 ∧ Below w.heap.size w w' ∧ w.heap.size ≤ r ∧ (bs ≠ [] → w.heap.size ≤ m)
set_option maxRecDepth 100000 in
theorem read_any (E : Nat → Addr) (bs : List UInt8) (v : Value) (w : World) (hs : SrcB w v bs) (hl : bs.length ≤ 70368744177664) :
    Calls Tryd.prog 16 #[v] w fun e w' => ∃ m r, e = .returned (.pointer (some ⟨r, 0, none⟩)) ∧ NewRd E m w w' r bs := by
  have HS := Lib.hid hs
  clear hs
  go_enter Tryd.func16, Tryd.ntmps16
  go_wp2_with fail
  refine (clone_any bs v _ HS.out hl).mono ?_
  rintro e w1 ⟨v1, rfl, h1⟩
  obtain ⟨sp1, n1, cap1, rfl, -, -⟩ := (src_own h1.1).shape'
  have H1 := Lib.hid h1
  clear h1
  go_wp2_with fail
  go_ret
  obtain ⟨m, hm1, hm3, hm2⟩ := own_at H1.out.1
  exact ⟨m, _, rfl, ⟨.slice sp1 n1 cap1, heap_alloc_new _ _, (src_own H1.out.1).below ((Below.refl _ _).alloc (Nat.le_refl _) _), hm1, hm3⟩, H1.out.2.alloc H1.out.2.size _, H1.out.2.size, fun h => hm2 (List.length_pos_iff.2 h)⟩
theorem cut_shape {v : Value} {sp : Option Addr} {l r cap : Nat} (h : Hid (v = sliced sp l r cap 1)) : ∃ x, v = .slice x (r - l) (cap - l) := ⟨_, h.out⟩
set_option maxRecDepth 100000 in
theorem take_any (E : Nat → Addr) (m : Nat) (k : Nat) (kk : Int) (hkk : kk = (k : Int)) (bs : List UInt8) (c r : Nat) (w : World) (hE : Er w E) (h : RdI E m w r bs c) (hk : k ≤ 9223372036854775807) :
    Calls Tryd.prog 33 #[.pointer (some ⟨r, 0, none⟩), .int .i64 kk] w (TakePost E m k bs c r w) := by
  subst hkk
  obtain ⟨v, h1, h2, h3⟩ := h
  obtain ⟨sp, n, cap, rfl, hn, hcap⟩ := h2.shape'
  have f0 := frozen_of_row w r 0 _ _ h1
  have f1 := frozen_of_row w r 1 _ _ h1
  have c0 : w.cell? ⟨r, 0, none⟩ = some (.slice sp n cap) := by rw [cell_of_row _ _ _ _ _ _ h1]; rfl
  have c1 : w.cell? ⟨r, 1, none⟩ = some (errV E c) := by rw [cell_of_row _ _ _ _ _ _ h1]; rfl
  have H1 := Lib.hid h1
  have H2 := Lib.hid h2
  have H3 := Lib.hid h3
  have HN := Lib.hid hn
  clear h1 h2 h3 hn
  cases c with
  | succ c =>
    have HT : Hid (takeL k bs (c + 1) = ([], bs, c + 1)) := by show _ = _; unfold takeL; rw [if_pos (by omega)]
    change _ = some (Value.iface 142 (.pointer (some (E c)))) at c1
    clear f0 f1 hE
    go_enter Tryd.func33, Tryd.ntmps33
    go_wp2_with fail
    go_ret
    refine ⟨_, rfl, ?_, apart_none _ _ _, ?_, grownBy_refl _ _⟩
    · rw [HT.out]; exact src_none _
    · rw [HT.out]; exact ⟨_, H1.out, H2.out, H3.out⟩
  | zero =>
    change _ = some Value.nilIface at c1
    by_cases hlt : n < k
    · have HT : Hid (takeL k bs 0 = ([], bs, 1)) := by show _ = _; unfold takeL; rw [if_neg (by omega), if_pos (by rw [← HN.out]; exact hlt)]
      have e1 := hE.1
      change _ = some (Value.iface 142 (.pointer (some (E 0)))) at e1
      clear f0 hE
      go_enter Tryd.func33, Tryd.ntmps33
      go_wp2_with fail
      go_ret
      obtain ⟨g1, g2⟩ := rd_err (d := 1) H1.out H2.out H3.out.1 H3.out.2
      refine ⟨_, rfl, ?_, apart_none _ _ _, ?_, g2⟩
      · rw [HT.out]; exact src_none _
      · rw [HT.out]; exact g1
    · have HT : Hid (takeL k bs 0 = (bs.take k, bs.drop k, 0)) := by show _ = _; unfold takeL; rw [if_neg (by omega), if_neg (by rw [← HN.out]; exact hlt)]
      have i1 : ¬ (n : Int) < (k : Int) := by omega
      clear f1 hE
      go_enter Tryd.func33, Tryd.ntmps33
      go_wp2_with ((with_reducible show wpList _ _ _ _ _ _); first | (refine wpList_cut_h rfl 35 (.tmp 25) (.tmp 26) rfl 5 Tryd.underlying35 (by kernel_rfl) sp n cap k rfl rfl (by omega) ?_; intro vh hvh; go_frame) | (refine wpList_cut_l rfl 35 (.tmp 32) (.tmp 33) rfl 5 Tryd.underlying35 (by kernel_rfl) sp n cap k rfl rfl (by omega) ?_; intro vl hvl; obtain ⟨xl, rfl⟩ := cut_shape hvl; go_frame))
      go_ret
      have s1 := src_sliced H2.out 0 k (by omega) (by omega)
      have s2 := src_sliced H2.out k n (by omega) (by omega)
      have a1 := apart_cut (show 0 ≤ k by omega) (show k ≤ n by omega) H3.out.1
      have a2 := apart_cut (show k ≤ n by omega) (Nat.le_refl n) H3.out.1
      rw [← hvh.out] at s1 a1
      rw [← hvl.out] at s2 a2
      rw [List.take_of_length_le (show bs.length ≤ n by rw [HN.out]; exact Nat.le_refl _)] at s2
      obtain ⟨g1, g2⟩ := rd_set H1.out s2 a2 H3.out.2
      refine ⟨_, rfl, ?_, a1, ?_, g2⟩
      · rw [HT.out]
        rw [List.drop_zero] at s1
        exact s1.grown a1 H3.out.2 g2
      · rw [HT.out]; exact g1
end Go.Proofs.YtibfamhhjnaeiaaDoor.Sha

/-
  A Reader's Num, Four, Eight, Bytes and Hash answer what the chapter says, and leave what it says. Conditions: the Reader stands as it should; the three errors are there.
-/
namespace Go.Proofs.YtibfamhhjnaeiaaDoor.Sha
open Go Go.RowKit
/-- The three errors, none of them at block r. -/
def ErR (w : World) (E : Nat → Addr) (r : Nat) : Prop := Er w E ∧ 2 ≠ r ∧ 0 ≠ r ∧ 1 ≠ r
theorem ErR.grown {w w' : World} {E : Nat → Addr} {r : Nat} (h : ErR w E r) (hg : w.grownBy w' (some r)) : ErR w' E r := by
  obtain ⟨⟨a, b, c⟩, p, q, s⟩ := h
  exact ⟨⟨hg.cell a (fun e => p (Option.some.inj e)), hg.cell b (fun e => q (Option.some.inj e)), hg.cell c (fun e => s (Option.some.inj e))⟩, p, q, s⟩
theorem ErR.below {w w' : World} {E : Nat → Addr} {r : Nat} (h : ErR w E r) (hb : Below w.heap.size w w') : ErR w' E r := ⟨h.1.below hb, h.2⟩
theorem takeL_le (k : Nat) (bs : List UInt8) (c : Nat) : (takeL k bs c).1.length ≤ k := by
  unfold takeL
  split
  · simp
  · split
    · simp
    · simp [List.length_take]; omega
def TookPost (E : Nat → Addr) (m : Nat) (x b : List UInt8) (d r : Nat) (w : World) (e : Ending) (w' : World) : Prop :=
  ∃ v, e = .returned v ∧ SrcB w' v x ∧ AtB v m ∧ RdI E m w' r b d ∧ w.grownBy w' (some r)
theorem take_is (E : Nat → Addr) (m : Nat) (k : Nat) (kk : Int) (hkk : kk = (k : Int)) (bs x b : List UInt8) (c d r : Nat) (w : World) (hE : ErR w E r) (h : RdI E m w r bs c) (hk : k ≤ 9223372036854775807) (ht : takeL k bs c = (x, b, d)) :
    Calls Tryd.prog 33 #[.pointer (some ⟨r, 0, none⟩), .int .i64 kk] w (TookPost E m x b d r w) := by
  refine (take_any E m k kk hkk bs c r w hE.1 h hk).mono fun e w' ⟨v, he, h1, h2, h3, h4⟩ => ?_
  rw [ht] at h1 h3
  exact ⟨v, he, h1, h2, h3, h4⟩
/-- What Num answers, leaves and meets. -/
def numL (most : Nat) (bs : List UInt8) (c : Nat) : Nat × List UInt8 × Nat :=
  let t := takeL 1 bs c
  let k := widN (leN t.1)
  let u := if k = 0 then t else takeL k t.2.1 t.2.2
  if u.2.2 ≠ 0 then (0, u.2.1, u.2.2) else if lenN (leN u.1) ≠ 1 + k then (0, u.2.1, 2) else if most < leN u.1 then (0, u.2.1, 4) else (leN u.1, u.2.1, 0)
def NumPost (E : Nat → Addr) (m : Nat) (n : Nat) (b : List UInt8) (d r : Nat) (w : World) (e : Ending) (w' : World) : Prop :=
  e = .returned (.int .u64 n) ∧ RdI E m w' r b d ∧ w.grownBy w' (some r)
/-- What a Reader's two cells are. -/
theorem RdI.cells {E : Nat → Addr} {m : Nat} {w : World} {r c : Nat} {bs : List UInt8} (h : RdI E m w r bs c) : w.cell? ⟨r, 1, none⟩ = some (errV E c) ∧ w.frozen? ⟨r, 1, none⟩ = false := by
  obtain ⟨v, h1, _⟩ := h
  exact ⟨by rw [cell_of_row _ _ _ _ _ _ h1]; rfl, frozen_of_row _ _ _ _ _ h1⟩
theorem RdI.met {E : Nat → Addr} {m : Nat} {w : World} {r c : Nat} {bs : List UInt8} (d : Nat) (h : RdI E m w r bs c) : RdI E m (w.setCell ⟨r, 1, none⟩ (errV E d)) r bs d ∧ w.grownBy (w.setCell ⟨r, 1, none⟩ (errV E d)) (some r) := by
  obtain ⟨v, h1, h2, h3⟩ := h
  exact rd_err h1 h2 h3.1 h3.2
theorem widN_le (n : Nat) : widN n ≤ 8 := by unfold widN; split <;> (try split) <;> (try split) <;> omega
set_option maxHeartbeats 400000 in
set_option maxRecDepth 100000 in
theorem num_aerr (E : Nat → Addr) (m : Nat) (most : Nat) (bs x b : List UInt8) (c d r : Nat) (w : World) (hE : ErR w E r) (hr : RdI E m w r bs c) (ht : takeL 1 bs c = (x, b, d)) (hk : widN (leN x) = 0) (q : Nat) (hd : d = q + 1) :
    Calls Tryd.prog 17 #[.pointer (some ⟨r, 0, none⟩), .int .u64 most] w (NumPost E m 0 b (q + 1) r w) := by
  have HE := Lib.hid hE
  have HR := Lib.hid hr
  have HT := Lib.hid ht
  have HX : Hid (x.length ≤ 1) := by have := takeL_le 1 bs c; rw [ht] at this; exact this
  have HK : Hid (((widN (leN x) : Nat) : Int) = 0) := by show _ = _; simp [hk]
  have HD := Lib.hid hd
  clear hE hr ht hk hd
  go_enter Tryd.func17, Tryd.ntmps17
  go_wp2_with fail
  refine (take_is E m 1 1 rfl bs x b c d r _ HE.out HR.out (by omega) HT.out).mono ?_
  rintro e w1 ⟨v1, rfl, s1, -, i1, g1⟩
  have S1 := Lib.hid s1
  have I1 := Lib.hid i1
  have G1 := Lib.hid g1
  clear s1 i1 g1
  go_wp2_with fail
  refine (number_any x v1 _ S1.out (by have := HX.out; omega)).mono ?_
  rintro e w' ⟨rfl, rfl⟩
  go_wp2_with fail
  refine (width_any (leN x) 0 _ HK.out).mono ?_
  rintro e w' ⟨rfl, rfl⟩
  have hc1 := I1.out.cells.1
  rw [HD.out] at hc1
  change _ = some (Value.iface 142 (.pointer (some (E q)))) at hc1
  go_wp2_with fail
  go_ret
  exact ⟨rfl, by rw [← HD.out]; exact I1.out, G1.out⟩
set_option maxHeartbeats 400000 in
set_option maxRecDepth 100000 in
theorem num_ashape (E : Nat → Addr) (m : Nat) (most : Nat) (bs x b : List UInt8) (c d r : Nat) (w : World) (hE : ErR w E r) (hr : RdI E m w r bs c) (ht : takeL 1 bs c = (x, b, d)) (hk : widN (leN x) = 0) (hd : d = 0) (hl : lenN (leN x) ≠ 1) :
    Calls Tryd.prog 17 #[.pointer (some ⟨r, 0, none⟩), .int .u64 most] w (NumPost E m 0 b 2 r w) := by
  have HE := Lib.hid hE
  have HR := Lib.hid hr
  have HT := Lib.hid ht
  have HX : Hid (x.length ≤ 1) := by have := takeL_le 1 bs c; rw [ht] at this; exact this
  have HK : Hid (((widN (leN x) : Nat) : Int) = 0) := by show _ = _; simp [hk]
  have HD := Lib.hid hd
  clear hE hr ht hk hd
  obtain ⟨L, hL⟩ : ∃ L : Int, L = ((lenN (leN x) : Nat) : Int) := ⟨_, rfl⟩
  have hne : (L == 1) = false := by rw [beq_eq_false_iff_ne, hL]; intro e; exact hl (by omega)
  have hne' : (L != 1) = true := by simp [bne, hne]
  have HL : Hid (((lenN (leN x) : Nat) : Int) = L) := hL.symm
  clear hL hl
  go_enter Tryd.func17, Tryd.ntmps17
  go_wp2_with fail
  refine (take_is E m 1 1 rfl bs x b c d r _ HE.out HR.out (by omega) HT.out).mono ?_
  rintro e w1 ⟨v1, rfl, s1, -, i1, g1⟩
  have S1 := Lib.hid s1
  have I1 := Lib.hid i1
  have G1 := Lib.hid g1
  clear s1 i1 g1
  go_wp2_with fail
  refine (number_any x v1 _ S1.out (by have := HX.out; omega)).mono ?_
  rintro e w' ⟨rfl, rfl⟩
  go_wp2_with fail
  refine (width_any (leN x) 0 _ HK.out).mono ?_
  rintro e w' ⟨rfl, rfl⟩
  have hc1 := I1.out.cells.1
  have hf1 := I1.out.cells.2
  rw [HD.out] at hc1
  change _ = some Value.nilIface at hc1
  have he := (HE.out.grown G1.out).1.2.1
  change _ = some (Value.iface 142 (.pointer (some (E 1)))) at he
  go_wp2_with (go_at_call 26; refine (len_is (leN x) (L) _ HL.out).mono ?_; rintro e w' ⟨rfl, rfl⟩)
  go_ret
  obtain ⟨m1, m2⟩ := I1.out.met 2
  exact ⟨rfl, m1, grownBy_trans G1.out m2⟩
set_option maxHeartbeats 400000 in
set_option maxRecDepth 100000 in
theorem num_amany (E : Nat → Addr) (m : Nat) (most : Nat) (bs x b : List UInt8) (c d r : Nat) (w : World) (hE : ErR w E r) (hr : RdI E m w r bs c) (ht : takeL 1 bs c = (x, b, d)) (hk : widN (leN x) = 0) (hd : d = 0) (hl : lenN (leN x) = 1) (hm : most < leN x) :
    Calls Tryd.prog 17 #[.pointer (some ⟨r, 0, none⟩), .int .u64 most] w (NumPost E m 0 b 4 r w) := by
  have HE := Lib.hid hE
  have HR := Lib.hid hr
  have HT := Lib.hid ht
  have HX : Hid (x.length ≤ 1) := by have := takeL_le 1 bs c; rw [ht] at this; exact this
  have HK : Hid (((widN (leN x) : Nat) : Int) = 0) := by show _ = _; simp [hk]
  have HD := Lib.hid hd
  clear hE hr ht hk hd
  have HL : Hid (((lenN (leN x) : Nat) : Int) = 1) := by show _ = _; rw [hl]; first | rfl | simp
  clear hl
  have hmi : (most : Int) < ((leN x : Nat) : Int) := by omega
  go_enter Tryd.func17, Tryd.ntmps17
  go_wp2_with fail
  refine (take_is E m 1 1 rfl bs x b c d r _ HE.out HR.out (by omega) HT.out).mono ?_
  rintro e w1 ⟨v1, rfl, s1, -, i1, g1⟩
  have S1 := Lib.hid s1
  have I1 := Lib.hid i1
  have G1 := Lib.hid g1
  clear s1 i1 g1
  go_wp2_with fail
  refine (number_any x v1 _ S1.out (by have := HX.out; omega)).mono ?_
  rintro e w' ⟨rfl, rfl⟩
  go_wp2_with fail
  refine (width_any (leN x) 0 _ HK.out).mono ?_
  rintro e w' ⟨rfl, rfl⟩
  have hc1 := I1.out.cells.1
  have hf1 := I1.out.cells.2
  rw [HD.out] at hc1
  change _ = some Value.nilIface at hc1
  have he := (HE.out.grown G1.out).1.2.2
  change _ = some (Value.iface 142 (.pointer (some (E 3)))) at he
  go_wp2_with (go_at_call 26; refine (len_is (leN x) (1) _ HL.out).mono ?_; rintro e w' ⟨rfl, rfl⟩)
  go_ret
  obtain ⟨m1, m2⟩ := I1.out.met 4
  exact ⟨rfl, m1, grownBy_trans G1.out m2⟩
set_option maxHeartbeats 400000 in
set_option maxRecDepth 100000 in
theorem num_afine (E : Nat → Addr) (m : Nat) (most : Nat) (bs x b : List UInt8) (c d r : Nat) (w : World) (hE : ErR w E r) (hr : RdI E m w r bs c) (ht : takeL 1 bs c = (x, b, d)) (hk : widN (leN x) = 0) (hd : d = 0) (hl : lenN (leN x) = 1) (hm : ¬ most < leN x) :
    Calls Tryd.prog 17 #[.pointer (some ⟨r, 0, none⟩), .int .u64 most] w (NumPost E m (leN x) b 0 r w) := by
  have HE := Lib.hid hE
  have HR := Lib.hid hr
  have HT := Lib.hid ht
  have HX : Hid (x.length ≤ 1) := by have := takeL_le 1 bs c; rw [ht] at this; exact this
  have HK : Hid (((widN (leN x) : Nat) : Int) = 0) := by show _ = _; simp [hk]
  have HD := Lib.hid hd
  clear hE hr ht hk hd
  have HL : Hid (((lenN (leN x) : Nat) : Int) = 1) := by show _ = _; rw [hl]; first | rfl | simp
  clear hl
  have hmi : ¬ (most : Int) < ((leN x : Nat) : Int) := by omega
  go_enter Tryd.func17, Tryd.ntmps17
  go_wp2_with fail
  refine (take_is E m 1 1 rfl bs x b c d r _ HE.out HR.out (by omega) HT.out).mono ?_
  rintro e w1 ⟨v1, rfl, s1, -, i1, g1⟩
  have S1 := Lib.hid s1
  have I1 := Lib.hid i1
  have G1 := Lib.hid g1
  clear s1 i1 g1
  go_wp2_with fail
  refine (number_any x v1 _ S1.out (by have := HX.out; omega)).mono ?_
  rintro e w' ⟨rfl, rfl⟩
  go_wp2_with fail
  refine (width_any (leN x) 0 _ HK.out).mono ?_
  rintro e w' ⟨rfl, rfl⟩
  have hc1 := I1.out.cells.1
  have hf1 := I1.out.cells.2
  rw [HD.out] at hc1
  change _ = some Value.nilIface at hc1
  go_wp2_with (go_at_call 26; refine (len_is (leN x) (1) _ HL.out).mono ?_; rintro e w' ⟨rfl, rfl⟩)
  go_ret
  exact ⟨rfl, by rw [← HD.out]; exact I1.out, G1.out⟩
set_option maxHeartbeats 400000 in
set_option maxRecDepth 100000 in
theorem num_berr (E : Nat → Addr) (m : Nat) (most : Nat) (bs x b : List UInt8) (c d r : Nat) (w : World) (hE : ErR w E r) (hr : RdI E m w r bs c) (ht : takeL 1 bs c = (x, b, d)) (k : Nat) (hk : widN (leN x) = k) (hk0 : 0 < k) (x2 b2 : List UInt8) (d2 : Nat) (ht2 : takeL k b d = (x2, b2, d2)) (q : Nat) (hd : d2 = q + 1) :
    Calls Tryd.prog 17 #[.pointer (some ⟨r, 0, none⟩), .int .u64 most] w (NumPost E m 0 b2 (q + 1) r w) := by
  have HE := Lib.hid hE
  have HR := Lib.hid hr
  have HT := Lib.hid ht
  have HX : Hid (x.length ≤ 1) := by have := takeL_le 1 bs c; rw [ht] at this; exact this
  have HK : Hid (((widN (leN x) : Nat) : Int) = (k : Int)) := by show _ = _; simp [hk]
  have hk8 : k ≤ 8 := by rw [← hk]; exact widN_le _
  have HT2 := Lib.hid ht2
  have HX2 : Hid (x2.length ≤ k) := by have := takeL_le k b d; rw [ht2] at this; exact this
  have hki : (0 : Int) < (k : Int) := by omega
  clear ht2
  have HD := Lib.hid hd
  clear hE hr ht hk hd
  go_enter Tryd.func17, Tryd.ntmps17
  go_wp2_with fail
  refine (take_is E m 1 1 rfl bs x b c d r _ HE.out HR.out (by omega) HT.out).mono ?_
  rintro e w1 ⟨v1, rfl, s1, -, i1, g1⟩
  have S1 := Lib.hid s1
  have I1 := Lib.hid i1
  have G1 := Lib.hid g1
  clear s1 i1 g1
  go_wp2_with fail
  refine (number_any x v1 _ S1.out (by have := HX.out; omega)).mono ?_
  rintro e w' ⟨rfl, rfl⟩
  go_wp2_with fail
  refine (width_any (leN x) (k : Int) _ HK.out).mono ?_
  rintro e w' ⟨rfl, rfl⟩
  go_wp2_with fail
  refine (take_is E m k k rfl b x2 b2 d d2 r _ (HE.out.grown G1.out) I1.out (by omega) HT2.out).mono ?_
  rintro e w2 ⟨v2, rfl, s2, -, i2, g2⟩
  have S2 := Lib.hid s2
  have I2 := Lib.hid i2
  have G2 := Lib.hid (grownBy_trans G1.out g2)
  clear s2 i2 g2
  go_wp2_with fail
  refine (number_any x2 v2 _ S2.out (by have := HX2.out; omega)).mono ?_
  rintro e w' ⟨rfl, rfl⟩
  have hc1 := I2.out.cells.1
  rw [HD.out] at hc1
  change _ = some (Value.iface 142 (.pointer (some (E q)))) at hc1
  go_wp2_with fail
  go_ret
  exact ⟨rfl, by rw [← HD.out]; exact I2.out, G2.out⟩
set_option maxHeartbeats 400000 in
set_option maxRecDepth 100000 in
theorem num_bshape (E : Nat → Addr) (m : Nat) (most : Nat) (bs x b : List UInt8) (c d r : Nat) (w : World) (hE : ErR w E r) (hr : RdI E m w r bs c) (ht : takeL 1 bs c = (x, b, d)) (k : Nat) (hk : widN (leN x) = k) (hk0 : 0 < k) (x2 b2 : List UInt8) (d2 : Nat) (ht2 : takeL k b d = (x2, b2, d2)) (hd : d2 = 0) (hl : lenN (leN x2) ≠ 1 + k) :
    Calls Tryd.prog 17 #[.pointer (some ⟨r, 0, none⟩), .int .u64 most] w (NumPost E m 0 b2 2 r w) := by
  have HE := Lib.hid hE
  have HR := Lib.hid hr
  have HT := Lib.hid ht
  have HX : Hid (x.length ≤ 1) := by have := takeL_le 1 bs c; rw [ht] at this; exact this
  have HK : Hid (((widN (leN x) : Nat) : Int) = (k : Int)) := by show _ = _; simp [hk]
  have hk8 : k ≤ 8 := by rw [← hk]; exact widN_le _
  have HT2 := Lib.hid ht2
  have HX2 : Hid (x2.length ≤ k) := by have := takeL_le k b d; rw [ht2] at this; exact this
  have hki : (0 : Int) < (k : Int) := by omega
  clear ht2
  have HD := Lib.hid hd
  clear hE hr ht hk hd
  obtain ⟨L, hL⟩ : ∃ L : Int, L = ((lenN (leN x2) : Nat) : Int) := ⟨_, rfl⟩
  have hne : (L == 1 + (k : Int)) = false := by rw [beq_eq_false_iff_ne, hL]; intro e; exact hl (by omega)
  have hne' : (L != 1 + (k : Int)) = true := by simp [bne, hne]
  have HL : Hid (((lenN (leN x2) : Nat) : Int) = L) := hL.symm
  clear hL hl
  go_enter Tryd.func17, Tryd.ntmps17
  go_wp2_with fail
  refine (take_is E m 1 1 rfl bs x b c d r _ HE.out HR.out (by omega) HT.out).mono ?_
  rintro e w1 ⟨v1, rfl, s1, -, i1, g1⟩
  have S1 := Lib.hid s1
  have I1 := Lib.hid i1
  have G1 := Lib.hid g1
  clear s1 i1 g1
  go_wp2_with fail
  refine (number_any x v1 _ S1.out (by have := HX.out; omega)).mono ?_
  rintro e w' ⟨rfl, rfl⟩
  go_wp2_with fail
  refine (width_any (leN x) (k : Int) _ HK.out).mono ?_
  rintro e w' ⟨rfl, rfl⟩
  go_wp2_with fail
  refine (take_is E m k k rfl b x2 b2 d d2 r _ (HE.out.grown G1.out) I1.out (by omega) HT2.out).mono ?_
  rintro e w2 ⟨v2, rfl, s2, -, i2, g2⟩
  have S2 := Lib.hid s2
  have I2 := Lib.hid i2
  have G2 := Lib.hid (grownBy_trans G1.out g2)
  clear s2 i2 g2
  go_wp2_with fail
  refine (number_any x2 v2 _ S2.out (by have := HX2.out; omega)).mono ?_
  rintro e w' ⟨rfl, rfl⟩
  have hc1 := I2.out.cells.1
  have hf1 := I2.out.cells.2
  rw [HD.out] at hc1
  change _ = some Value.nilIface at hc1
  have he := (HE.out.grown G2.out).1.2.1
  change _ = some (Value.iface 142 (.pointer (some (E 1)))) at he
  go_wp2_with (go_at_call 26; refine (len_is (leN x2) (L) _ HL.out).mono ?_; rintro e w' ⟨rfl, rfl⟩)
  go_ret
  obtain ⟨m1, m2⟩ := I2.out.met 2
  exact ⟨rfl, m1, grownBy_trans G2.out m2⟩
set_option maxHeartbeats 400000 in
set_option maxRecDepth 100000 in
theorem num_bmany (E : Nat → Addr) (m : Nat) (most : Nat) (bs x b : List UInt8) (c d r : Nat) (w : World) (hE : ErR w E r) (hr : RdI E m w r bs c) (ht : takeL 1 bs c = (x, b, d)) (k : Nat) (hk : widN (leN x) = k) (hk0 : 0 < k) (x2 b2 : List UInt8) (d2 : Nat) (ht2 : takeL k b d = (x2, b2, d2)) (hd : d2 = 0) (hl : lenN (leN x2) = 1 + k) (hm : most < leN x2) :
    Calls Tryd.prog 17 #[.pointer (some ⟨r, 0, none⟩), .int .u64 most] w (NumPost E m 0 b2 4 r w) := by
  have HE := Lib.hid hE
  have HR := Lib.hid hr
  have HT := Lib.hid ht
  have HX : Hid (x.length ≤ 1) := by have := takeL_le 1 bs c; rw [ht] at this; exact this
  have HK : Hid (((widN (leN x) : Nat) : Int) = (k : Int)) := by show _ = _; simp [hk]
  have hk8 : k ≤ 8 := by rw [← hk]; exact widN_le _
  have HT2 := Lib.hid ht2
  have HX2 : Hid (x2.length ≤ k) := by have := takeL_le k b d; rw [ht2] at this; exact this
  have hki : (0 : Int) < (k : Int) := by omega
  clear ht2
  have HD := Lib.hid hd
  clear hE hr ht hk hd
  have HL : Hid (((lenN (leN x2) : Nat) : Int) = 1 + (k : Int)) := by show _ = _; rw [hl]; first | rfl | simp
  clear hl
  have hmi : (most : Int) < ((leN x2 : Nat) : Int) := by omega
  go_enter Tryd.func17, Tryd.ntmps17
  go_wp2_with fail
  refine (take_is E m 1 1 rfl bs x b c d r _ HE.out HR.out (by omega) HT.out).mono ?_
  rintro e w1 ⟨v1, rfl, s1, -, i1, g1⟩
  have S1 := Lib.hid s1
  have I1 := Lib.hid i1
  have G1 := Lib.hid g1
  clear s1 i1 g1
  go_wp2_with fail
  refine (number_any x v1 _ S1.out (by have := HX.out; omega)).mono ?_
  rintro e w' ⟨rfl, rfl⟩
  go_wp2_with fail
  refine (width_any (leN x) (k : Int) _ HK.out).mono ?_
  rintro e w' ⟨rfl, rfl⟩
  go_wp2_with fail
  refine (take_is E m k k rfl b x2 b2 d d2 r _ (HE.out.grown G1.out) I1.out (by omega) HT2.out).mono ?_
  rintro e w2 ⟨v2, rfl, s2, -, i2, g2⟩
  have S2 := Lib.hid s2
  have I2 := Lib.hid i2
  have G2 := Lib.hid (grownBy_trans G1.out g2)
  clear s2 i2 g2
  go_wp2_with fail
  refine (number_any x2 v2 _ S2.out (by have := HX2.out; omega)).mono ?_
  rintro e w' ⟨rfl, rfl⟩
  have hc1 := I2.out.cells.1
  have hf1 := I2.out.cells.2
  rw [HD.out] at hc1
  change _ = some Value.nilIface at hc1
  have he := (HE.out.grown G2.out).1.2.2
  change _ = some (Value.iface 142 (.pointer (some (E 3)))) at he
  go_wp2_with (go_at_call 26; refine (len_is (leN x2) (1 + (k : Int)) _ HL.out).mono ?_; rintro e w' ⟨rfl, rfl⟩)
  go_ret
  obtain ⟨m1, m2⟩ := I2.out.met 4
  exact ⟨rfl, m1, grownBy_trans G2.out m2⟩
set_option maxHeartbeats 400000 in
set_option maxRecDepth 100000 in
theorem num_bfine (E : Nat → Addr) (m : Nat) (most : Nat) (bs x b : List UInt8) (c d r : Nat) (w : World) (hE : ErR w E r) (hr : RdI E m w r bs c) (ht : takeL 1 bs c = (x, b, d)) (k : Nat) (hk : widN (leN x) = k) (hk0 : 0 < k) (x2 b2 : List UInt8) (d2 : Nat) (ht2 : takeL k b d = (x2, b2, d2)) (hd : d2 = 0) (hl : lenN (leN x2) = 1 + k) (hm : ¬ most < leN x2) :
    Calls Tryd.prog 17 #[.pointer (some ⟨r, 0, none⟩), .int .u64 most] w (NumPost E m (leN x2) b2 0 r w) := by
  have HE := Lib.hid hE
  have HR := Lib.hid hr
  have HT := Lib.hid ht
  have HX : Hid (x.length ≤ 1) := by have := takeL_le 1 bs c; rw [ht] at this; exact this
  have HK : Hid (((widN (leN x) : Nat) : Int) = (k : Int)) := by show _ = _; simp [hk]
  have hk8 : k ≤ 8 := by rw [← hk]; exact widN_le _
  have HT2 := Lib.hid ht2
  have HX2 : Hid (x2.length ≤ k) := by have := takeL_le k b d; rw [ht2] at this; exact this
  have hki : (0 : Int) < (k : Int) := by omega
  clear ht2
  have HD := Lib.hid hd
  clear hE hr ht hk hd
  have HL : Hid (((lenN (leN x2) : Nat) : Int) = 1 + (k : Int)) := by show _ = _; rw [hl]; first | rfl | simp
  clear hl
  have hmi : ¬ (most : Int) < ((leN x2 : Nat) : Int) := by omega
  go_enter Tryd.func17, Tryd.ntmps17
  go_wp2_with fail
  refine (take_is E m 1 1 rfl bs x b c d r _ HE.out HR.out (by omega) HT.out).mono ?_
  rintro e w1 ⟨v1, rfl, s1, -, i1, g1⟩
  have S1 := Lib.hid s1
  have I1 := Lib.hid i1
  have G1 := Lib.hid g1
  clear s1 i1 g1
  go_wp2_with fail
  refine (number_any x v1 _ S1.out (by have := HX.out; omega)).mono ?_
  rintro e w' ⟨rfl, rfl⟩
  go_wp2_with fail
  refine (width_any (leN x) (k : Int) _ HK.out).mono ?_
  rintro e w' ⟨rfl, rfl⟩
  go_wp2_with fail
  refine (take_is E m k k rfl b x2 b2 d d2 r _ (HE.out.grown G1.out) I1.out (by omega) HT2.out).mono ?_
  rintro e w2 ⟨v2, rfl, s2, -, i2, g2⟩
  have S2 := Lib.hid s2
  have I2 := Lib.hid i2
  have G2 := Lib.hid (grownBy_trans G1.out g2)
  clear s2 i2 g2
  go_wp2_with fail
  refine (number_any x2 v2 _ S2.out (by have := HX2.out; omega)).mono ?_
  rintro e w' ⟨rfl, rfl⟩
  have hc1 := I2.out.cells.1
  have hf1 := I2.out.cells.2
  rw [HD.out] at hc1
  change _ = some Value.nilIface at hc1
  go_wp2_with (go_at_call 26; refine (len_is (leN x2) (1 + (k : Int)) _ HL.out).mono ?_; rintro e w' ⟨rfl, rfl⟩)
  go_ret
  exact ⟨rfl, by rw [← HD.out]; exact I2.out, G2.out⟩
theorem num_any (E : Nat → Addr) (m : Nat) (most : Nat) (bs : List UInt8) (c r : Nat) (w : World) (hE : ErR w E r) (hr : RdI E m w r bs c) :
    Calls Tryd.prog 17 #[.pointer (some ⟨r, 0, none⟩), .int .u64 most] w (NumPost E m (numL most bs c).1 (numL most bs c).2.1 (numL most bs c).2.2 r w) := by
  obtain ⟨x, b, d, ht⟩ : ∃ x b d, takeL 1 bs c = (x, b, d) := ⟨_, _, _, rfl⟩
  obtain ⟨k, hk⟩ : ∃ k, widN (leN x) = k := ⟨_, rfl⟩
  unfold numL
  simp only [ht, hk]
  by_cases hk0 : k = 0
  · subst hk0
    simp only [if_pos]
    cases hd : d with
    | succ q => exact num_aerr E m most bs x b c d r w hE hr ht hk q hd
    | zero =>
      rw [if_neg (by omega)]
      by_cases hl : lenN (leN x) = 1
      · rw [if_neg (by omega)]
        by_cases hm : most < leN x
        · rw [if_pos hm]; exact num_amany E m most bs x b c d r w hE hr ht hk hd hl hm
        · rw [if_neg hm]; exact num_afine E m most bs x b c d r w hE hr ht hk hd hl hm
      · rw [if_pos (by omega)]; exact num_ashape E m most bs x b c d r w hE hr ht hk hd hl
  · rw [if_neg hk0]
    obtain ⟨x2, b2, d2, ht2⟩ : ∃ x b' d', takeL k b d = (x, b', d') := ⟨_, _, _, rfl⟩
    simp only [ht2]
    cases hd : d2 with
    | succ q => exact num_berr E m most bs x b c d r w hE hr ht k hk (by omega) x2 b2 d2 ht2 q hd
    | zero =>
      rw [if_neg (by omega)]
      by_cases hl : lenN (leN x2) = 1 + k
      · rw [if_neg (by omega)]
        by_cases hm : most < leN x2
        · rw [if_pos hm]; exact num_bmany E m most bs x b c d r w hE hr ht k hk (by omega) x2 b2 d2 ht2 hd hl hm
        · rw [if_neg hm]; exact num_bfine E m most bs x b c d r w hE hr ht k hk (by omega) x2 b2 d2 ht2 hd hl hm
      · rw [if_pos (by omega)]; exact num_bshape E m most bs x b c d r w hE hr ht k hk (by omega) x2 b2 d2 ht2 hd hl
end Go.Proofs.YtibfamhhjnaeiaaDoor.Sha

/-
  A Reader's Four, Eight and Bytes answer what the chapter says, and leave what it says; Hash behind an error answers no digest. Conditions: the Reader stands as it should; the three errors are there.
-/
namespace Go.Proofs.YtibfamhhjnaeiaaDoor.Sha
open Go Go.RowKit
set_option maxRecDepth 100000 in
theorem eight_is (E : Nat → Addr) (m : Nat) (bs x b : List UInt8) (c d r : Nat) (w : World) (hE : ErR w E r) (hr : RdI E m w r bs c) (ht : takeL 8 bs c = (x, b, d)) :
    Calls Tryd.prog 37 #[.pointer (some ⟨r, 0, none⟩)] w (NumPost E m (leN x) b d r w) := by
  have HE := Lib.hid hE
  have HR := Lib.hid hr
  have HT := Lib.hid ht
  have HX : Hid (x.length ≤ 8) := by have := takeL_le 8 bs c; rw [ht] at this; exact this
  clear hE hr ht
  go_enter Tryd.func37, Tryd.ntmps37
  go_wp2_with fail
  refine (take_is E m 8 8 rfl bs x b c d r _ HE.out HR.out (by omega) HT.out).mono ?_
  rintro e w1 ⟨v1, rfl, s1, -, i1, g1⟩
  have S1 := Lib.hid s1
  have I1 := Lib.hid i1
  have G1 := Lib.hid g1
  clear s1 i1 g1
  go_wp2_with fail
  refine (number_any x v1 _ S1.out HX.out).mono ?_
  rintro e w' ⟨rfl, rfl⟩
  go_wp2_with fail
  go_ret
  exact ⟨rfl, I1.out, G1.out⟩
def FourPost (E : Nat → Addr) (m : Nat) (n : Nat) (b : List UInt8) (d r : Nat) (w : World) (e : Ending) (w' : World) : Prop :=
  e = .returned (.int .u32 n) ∧ RdI E m w' r b d ∧ w.grownBy w' (some r)
set_option maxRecDepth 100000 in
theorem four_is (E : Nat → Addr) (m : Nat) (bs x b : List UInt8) (c d r : Nat) (w : World) (hE : ErR w E r) (hr : RdI E m w r bs c) (ht : takeL 4 bs c = (x, b, d)) :
    Calls Tryd.prog 36 #[.pointer (some ⟨r, 0, none⟩)] w (FourPost E m (leN x) b d r w) := by
  have HE := Lib.hid hE
  have HR := Lib.hid hr
  have HT := Lib.hid ht
  have hx : x.length ≤ 4 := by have := takeL_le 4 bs c; rw [ht] at this; exact this
  have hlt : leN x < 4294967296 := by
    have h1 := leN_lt x
    have h2 : 256 ^ x.length ≤ 256 ^ 4 := Nat.pow_le_pow_right (by omega) hx
    have h3 : (256 : Nat) ^ 4 = 4294967296 := rfl
    omega
  have HX := Lib.hid hx
  obtain ⟨n, hn⟩ : ∃ n, n = leN x := ⟨_, rfl⟩
  rw [← hn] at hlt ⊢
  have HN := Lib.hid hn
  have hmod : (n : Int) % 4294967296 = (n : Int) := by omega
  clear hE hr ht hx hn
  go_enter Tryd.func36, Tryd.ntmps36
  go_wp2_with fail
  refine (take_is E m 4 4 rfl bs x b c d r _ HE.out HR.out (by omega) HT.out).mono ?_
  rintro e w1 ⟨v1, rfl, s1, -, i1, g1⟩
  have S1 := Lib.hid s1
  have I1 := Lib.hid i1
  have G1 := Lib.hid g1
  clear s1 i1 g1
  go_wp2_with fail
  have hnum := number_any x v1 w1 S1.out (by have := HX.out; omega)
  rw [← HN.out] at hnum
  refine hnum.mono ?_
  rintro e w' ⟨rfl, rfl⟩
  clear hnum
  go_wp2_with fail
  go_ret
  exact ⟨ret_int (by omega), I1.out, G1.out⟩
def BytesPost (E : Nat → Addr) (m : Nat) (x b : List UInt8) (d r : Nat) (w : World) (e : Ending) (w' : World) : Prop :=
  ∃ v, e = .returned v ∧ w'.ownsRow w.heap.size 5 1 v x.length (x.map bV) ∧ RdI E m w' r b d ∧ w.grownBy w' (some r)
theorem grownBy_below' {w w1 w2 : World} {row : Option Nat} (h : w.grownBy w1 row) (hb : Below w1.heap.size w1 w2) : w.grownBy w2 row := grownBy_trans h (grownBy_of_below hb row)
set_option maxRecDepth 100000 in
theorem bytes_is (E : Nat → Addr) (m : Nat) (n : Int) (k : Nat) (hk : k = n.toNat) (bs x b : List UInt8) (c d r : Nat) (w : World) (hE : ErR w E r) (hr : RdI E m w r bs c) (ht : takeL k bs c = (x, b, d)) (hn : n ≤ 9223372036854775807) (hl : bs.length ≤ 70368744177664) :
    Calls Tryd.prog 38 #[.pointer (some ⟨r, 0, none⟩), .int .i64 n] w (BytesPost E m x b d r w) := by
  have HE := Lib.hid hE
  have HR := Lib.hid hr
  have HT := Lib.hid ht
  have hx : x.length ≤ 70368744177664 := by
    have h1 : x.length ≤ bs.length := by
      unfold takeL at ht
      split at ht
      · cases ht; simp
      · split at ht
        · cases ht; simp
        · cases ht; simp [List.length_take]; omega
    omega
  have HX := Lib.hid hx
  by_cases h0 : n < 0
  · have hk0 : k = 0 := by omega
    subst hk0
    clear hk hE hr ht hx
    go_enter Tryd.func38, Tryd.ntmps38
    go_wp2_with fail
    refine (take_is E m 0 0 rfl bs x b c d r _ HE.out HR.out (by omega) HT.out).mono ?_
    rintro e w1 ⟨v1, rfl, s1, -, i1, g1⟩
    have S1 := Lib.hid s1
    have I1 := Lib.hid i1
    have G1 := Lib.hid g1
    clear s1 i1 g1
    go_wp2_with fail
    refine (clone_any x v1 _ S1.out HX.out).mono ?_
    rintro e w2 ⟨v2, rfl, h2⟩
    have H2 := Lib.hid h2
    clear h2
    go_wp2_with fail
    go_ret
    exact ⟨_, rfl, own_base H2.out.1 G1.out.size, I1.out.below H2.out.2, grownBy_below' G1.out H2.out.2⟩
  · obtain ⟨q, rfl⟩ : ∃ q : Nat, n = (q : Int) := ⟨n.toNat, by omega⟩
    have hkq : k = q := by omega
    subst hkq
    have h0' : ¬ (k : Int) < 0 := by omega
    clear hk hE hr ht hx h0
    go_enter Tryd.func38, Tryd.ntmps38
    go_wp2_with fail
    refine (take_is E m k k rfl bs x b c d r _ HE.out HR.out (by omega) HT.out).mono ?_
    rintro e w1 ⟨v1, rfl, s1, -, i1, g1⟩
    have S1 := Lib.hid s1
    have I1 := Lib.hid i1
    have G1 := Lib.hid g1
    clear s1 i1 g1
    go_wp2_with fail
    refine (clone_any x v1 _ S1.out HX.out).mono ?_
    rintro e w2 ⟨v2, rfl, h2⟩
    have H2 := Lib.hid h2
    clear h2
    go_wp2_with fail
    go_ret
    exact ⟨_, rfl, own_base H2.out.1 G1.out.size, I1.out.below H2.out.2, grownBy_below' G1.out H2.out.2⟩
end Go.Proofs.YtibfamhhjnaeiaaDoor.Sha

/-
  A Reader's Hash answers the next 32 bytes, or no digest, and leaves what the chapter says. Conditions: the Reader stands as it should; the three errors are there.
-/
namespace Go.Proofs.YtibfamhhjnaeiaaDoor.Sha
open Go Go.RowKit
/-- Bytes filled up to a digest's 32. -/
def padH (x : List UInt8) : List UInt8 := x ++ List.replicate (32 - x.length) 0
theorem padH_length {x : List UInt8} (h : x.length ≤ 32) : (padH x).length = 32 := by simp [padH]; omega
theorem splice_zero (x : List UInt8) (_ : x.length ≤ 32) : splice (List.replicate 32 (bV 0)) 0 (x.map bV) = (padH x).map bV := by
  have e : List.drop x.length (List.replicate 32 (bV 0)) = List.replicate (32 - x.length) (bV 0) := List.drop_replicate ..
  unfold splice padH
  rw [List.length_map, Nat.zero_add, e, List.take_zero, List.nil_append, List.map_append, List.map_replicate]
def HashPost (E : Nat → Addr) (m : Nat) (x b : List UInt8) (d r : Nat) (w : World) (e : Ending) (w' : World) : Prop :=
  e = .returned (.agg ((padH x).map bV).toArray) ∧ RdI E m w' r b d ∧ w.grownBy w' (some r)
theorem hash_end {w w1 w2 : World} {r : Nat} {o : Obj} (_ : r < w.heap.size) (g1 : (w.alloc o).drew.grownBy w1 (some r)) (h : Below w.heap.size w1 w2) : w.grownBy w2 (some r) := by
  refine ⟨h.os.trans g1.os, h.tape.trans g1.tape, h.output.trans g1.output, ?_, fun k hk hne => ?_⟩
  · have h1 := g1.size
    have h2 := h.size
    have h3 : (w.alloc o).drew.heap.size = w.heap.size + 1 := by simp [World.drew]
    omega
  · rw [h.block k hk, g1.block k (by simp [World.drew]; omega) hne]
    exact ((Below.refl w.heap.size w).alloc (Nat.le_refl _) o).drew.block k hk
theorem grown_then {w w2 w3 : World} {r : Nat} (h : w.grownBy w2 (some r)) (hb : Below w.heap.size w2 w3) : w.grownBy w3 (some r) :=
  ⟨hb.os.trans h.os, hb.tape.trans h.tape, hb.output.trans h.output, Nat.le_trans h.size hb.size, fun k hk hne => by rw [hb.block k hk]; exact h.block k hk hne⟩
theorem hash_row {w w1 : World} {r : Nat} {o : Obj} (hr : r < w.heap.size) (g1 : (w.alloc o).drew.grownBy w1 (some r)) : w1.heap[w.heap.size]? = some o := by
  rw [g1.block w.heap.size (by simp [World.drew]) (fun e => by have := Option.some.inj e; omega)]
  exact heap_alloc_new _ _
theorem src_cells {w : World} {sp : Option Addr} {n cap : Nat} {bs : List UInt8} (h : SrcB w (.slice sp n cap) bs) (g off : Nat) (h0 : 0 < (bs.map bV).length) : (some ⟨g, off, none⟩ : Option Addr) = some ⟨g, off, none⟩ ∧ ∃ ad, sp = some ad ∧ ∀ j v, (bs.map bV)[j]? = some v → w.cell? (ad.add j) = some v := by
  refine ⟨rfl, ?_⟩
  rcases h with ⟨sp', cap', hv, rfl⟩ | ⟨h1, bb, o, cap', hv, _, hc⟩
  · simp at h0
  · cases hv
    refine ⟨_, rfl, fun j v hj => ?_⟩
    rw [List.getElem?_map] at hj
    obtain ⟨b, hb, rfl⟩ := Option.map_eq_some_iff.1 hj
    have hlt := (List.getElem?_eq_some_iff.1 hb).1
    rw [Addr.add_mid, hc j hlt]
    simp [bV, List.getD, hb]
theorem copy_fact {w1 : World} {g n cap : Nat} {sp : Option Addr} {x : List UInt8} {T : TypeId} (hs : SrcB w1 (.slice sp n cap) x) (hn : n = x.length) (hx : x.length ≤ 32) (hg : w1.heap[g]? = some (.cells (List.replicate 32 (bV 0)).toArray T (0, 0))) :
    ∃ w2, (∀ ty, (Builtin.copy_ #[35, 35] ty #[.slice (some ⟨g, 0, none⟩) 32 32, .slice sp n cap]).run Tryd.prog w1 = .ok (goInt n) w2) ∧ w2.heap[g]? = some (.cells ((padH x).map bV).toArray T (0, 0)) ∧ Below g w1 w2 := by
  have hsz : (Tryd.prog.info? 5).map (·.size) = some 1 := by kernel_rfl
  have hmin : Nat.min n 32 = n := Nat.min_eq_left (by omega)
  by_cases h0 : n = 0
  · have hx0 : x = [] := List.eq_nil_of_length_eq_zero (by omega)
    refine ⟨w1, fun ty => ?_, ?_, Below.refl _ _⟩
    · rw [h0]
      exact run_copy_none w1 35 35 ty 5 (some ⟨g, 0, none⟩) sp 32 32 0 cap Tryd.underlying35 hsz rfl
    · rw [hx0, hg]
      simp [padH]
  · obtain ⟨-, ad, rfl, hc⟩ := src_cells hs g 0 (by simp; omega)
    refine ⟨_, fun ty => ?_, setRow_heap w1 g _ _ _ _ hg, below_setRow (Below.refl _ _) (Nat.le_refl _) _⟩
    have h := run_copy_row (P := Tryd.prog) w1 35 35 ty 5 g 0 32 32 ad n cap _ T (x.map bV) Tryd.underlying35 hsz hg (by rw [List.length_map, hmin, hn]) hc (by simp; omega) (bV_one' _)
    have e := splice_zero x hx
    unfold splice at e
    rw [List.length_map] at e h
    rw [← hn] at h e
    rw [← List.append_assoc] at e
    simp only [] at h
    rw [e] at h
    exact h
set_option maxHeartbeats 1000000 in
set_option maxRecDepth 100000 in
theorem hash_is (E : Nat → Addr) (m : Nat) (bs x b : List UInt8) (c d r : Nat) (w : World) (hE : ErR w E r) (hr : RdI E m w r bs c) (ht : takeL 32 bs c = (x, b, d)) :
    Calls Tryd.prog 35 #[.pointer (some ⟨r, 0, none⟩)] w (HashPost E m x b d r w) := by
  have hb0 : ∀ o, Below w.heap.size w (w.alloc o).drew := fun o => ((Below.refl _ _).alloc (Nat.le_refl _) o).drew
  have HE : Hid (∀ o, ErR (w.alloc o).drew E r) := fun o => hE.below (hb0 o)
  have HR : Hid (∀ o, RdI E m (w.alloc o).drew r bs c) := fun o => hr.below (hb0 o)
  have HT := Lib.hid ht
  have HRW := Lib.hid hr.lt
  have HM : Hid (b ≠ [] → m < w.heap.size) := fun h => hr.m_lt (fun e => h (by
    unfold takeL at ht
    rw [e] at ht
    split at ht
    · cases ht; rfl
    · split at ht
      · cases ht; rfl
      · cases ht; simp))
  have hx : x.length ≤ 32 := by have := takeL_le 32 bs c; rw [ht] at this; exact this
  have HX := Lib.hid hx
  have HPL : Hid (((padH x).map bV).toArray.size = 32) := by show _ = _; simp [padH_length hx]
  clear hE hr ht hb0 hx
  go_enter Tryd.func35, Tryd.ntmps35
  go_wp2_with fail
  go_region_with (go_at_call 33; refine (take_is E m 32 32 rfl bs x b c d r _ (HE.out _) (HR.out _) (by omega) HT.out).mono ?_; rintro e w1 ⟨v1, rfl, s1, a1, i1, g1⟩; obtain ⟨sp1, n1, cap1, rfl, hn1, -⟩ := s1.shape'; obtain ⟨w2, hrun, hg2, hb2⟩ := copy_fact s1 hn1 HX.out (hash_row HRW.out g1); have I2 := Lib.hid (i1.at hb2 HRW.out HM.out); have F2 := Lib.hid hg2; have G2 := Lib.hid (hash_end HRW.out g1 hb2); clear s1 a1 i1 g1 hn1 hg2 hb2)
  all_goals
    go_wp2_with ((with_reducible show wpList _ _ _ _ _ _); first | (refine wpList_load_row rfl 25 (.tmp 2) rfl w.heap.size rfl 25 ((padH x).map bV).toArray (0, 0) (.array 32 5) F2.out Tryd.underlying25 rfl (by rw [HPL.out]; kernel_rfl) ?_; go_frame) | (refine wpList_store_row rfl 25 (.tmp 2) (.tmp 7) rfl w.heap.size ((padH x).map bV).toArray rfl rfl 25 _ F2.out (by rw [HPL.out]; kernel_rfl) rfl (bV_one _) ?_; go_frame))
    refine bodyPost_ret (results_cell_row rfl _ _ w.heap.size 25 ((padH x).map bV).toArray (0, 0) (.array 32 5) rfl (setRow_heap _ _ _ _ _ _ F2.out) Tryd.underlying25 rfl (by rw [HPL.out]; kernel_rfl)) rfl ⟨rfl, I2.out.at (below_setRow (Below.refl _ _) (Nat.le_refl _) _) HRW.out HM.out, grown_then G2.out (below_setRow (Below.refl _ _) (Nat.le_refl _) _)⟩
end Go.Proofs.YtibfamhhjnaeiaaDoor.Sha

/-
  A Reader in a walk: how it stands behind each step, whatever else makes memory. Conditions: those that each states.
-/
namespace Go.Proofs.YtibfamhhjnaeiaaDoor.Sha
open Go Go.RowKit
/-- A Reader made since W; nothing that was there in W has turned. -/
def RS (E : Nat → Addr) (m : Nat) (W w : World) (r : Nat) (bs : List UInt8) (c : Nat) : Prop := RdI E m w r bs c ∧ Below W.heap.size W w ∧ W.heap.size ≤ r
variable {E : Nat → Addr} {m r c d : Nat} {W w w' : World} {bs b : List UInt8}
theorem RS.step (h : RS E m W w r bs c) (hi : RdI E m w' r b d) (hg : w.grownBy w' (some r)) : RS E m W w' r b d :=
  ⟨hi, h.2.1.grown hg h.2.1.size (fun k hk => by cases hk; exact h.2.2), h.2.2⟩
theorem RS.keep (h : RS E m W w r bs c) (hb : Below w.heap.size w w') : RS E m W w' r bs c := ⟨h.1.below hb, h.2.1.trans (hb.mono h.2.1.size), h.2.2⟩
theorem RS.other {q : Nat} (h : RS E m W w r bs c) (hg : w.grownBy w' (some q)) (hq : q ≠ r) (hm : bs ≠ [] → m ≠ q) (hW : W.heap.size ≤ q) : RS E m W w' r bs c :=
  ⟨h.1.grown hg hq hm, h.2.1.grown hg h.2.1.size (fun k hk => by cases hk; exact hW), h.2.2⟩
theorem RS.lt (h : RS E m W w r bs c) : r < w.heap.size := h.1.lt
theorem RS.er (h : RS E m W w r bs c) (hE : Er W E) : ErR w E r := ⟨hE.below h.2.1, hE.lt h.2.2⟩
theorem NewRd.rs (h : NewRd E m w w' r bs) (hb : Below W.heap.size W w) : RS E m W w' r bs 0 := ⟨h.1, hb.trans (h.2.1.mono hb.size), Nat.le_trans hb.size h.2.2.1⟩
/-- A literal of bytes. -/
theorem lit_src {w : World} (l : List UInt8) (T : TypeId) (h0 : 0 < l.length) : SrcB (w.alloc (.cells (l.map bV).toArray T)) (.slice (some ⟨w.heap.size, 0, none⟩) l.length l.length) l := src_row rfl h0 (heap_alloc_new _ _)
theorem mask_nat (n k : Nat) (hn : n < 18446744073709551616) (hk : 2 ^ k - 1 < 18446744073709551616) : bits .and .u64 (n : Int) ((2 ^ k - 1 : Nat) : Int) = ((n % 2 ^ k : Nat) : Int) := by
  rw [u64_and_nat _ _ hn hk, Nat.and_two_pow_sub_one_eq_mod]
/-- A row that is not the Reader's. -/
theorem row_grown {w w' : World} {g r : Nat} {o : Obj} (h : w.heap[g]? = some o) (hg : w.grownBy w' (some r)) (hne : r < g) : w'.heap[g]? = some o := by
  rw [hg.block g (Array.getElem?_eq_some_iff.1 h).1 (fun e => by have := Option.some.inj e; omega)]
  exact h
theorem takeL_err (k : Nat) (bs : List UInt8) (c : Nat) (h : c ≠ 0) : takeL k bs c = ([], bs, c) := by unfold takeL; rw [if_pos h]
theorem takeL_end (k : Nat) (bs : List UInt8) (h : bs.length < k) : takeL k bs 0 = ([], bs, 1) := by unfold takeL; rw [if_neg (by omega), if_pos h]
theorem takeL_ok (k : Nat) (bs : List UInt8) (h : k ≤ bs.length) : takeL k bs 0 = (bs.take k, bs.drop k, 0) := by unfold takeL; rw [if_neg (by omega), if_neg (by omega)]
theorem takeL_app (xs ys : List UInt8) (k : Nat) (h : xs.length = k) : takeL k (xs ++ ys) 0 = (xs, ys, 0) := by
  subst h
  rw [takeL_ok _ _ (by simp)]
  simp
theorem numL_err (most : Nat) (bs : List UInt8) (c : Nat) (h : c ≠ 0) : numL most bs c = (0, bs, c) := by
  have e : widN (leN []) = 0 := rfl
  unfold numL
  simp only [takeL_err _ _ _ h, e, if_pos]
  rw [if_pos h]
theorem num_is (most : Nat) (n : Nat) (hE : ErR w E r) (hr : RdI E m w r bs c) (ht : numL most bs c = (n, b, d)) :
    Calls Tryd.prog 17 #[.pointer (some ⟨r, 0, none⟩), .int .u64 most] w (NumPost E m n b d r w) := by
  have h := num_any E m most bs c r w hE hr
  rw [ht] at h
  exact h
theorem left_none (hr : RdI E m w r [] c) : Calls Tryd.prog 20 #[.pointer (some ⟨r, 0, none⟩)] w fun e w' => e = .returned (.int .i64 0) ∧ w = w' :=
  left_any E m [] c r w hr
/-- Behind an error each call answers nothing. -/
theorem num_none (most : Nat) (hc : c ≠ 0) (hE : ErR w E r) (hr : RdI E m w r bs c) :
    Calls Tryd.prog 17 #[.pointer (some ⟨r, 0, none⟩), .int .u64 most] w fun e w' => e = .returned (.int .u64 0) ∧ RdI E m w' r bs c ∧ w.grownBy w' (some r) :=
  num_is most 0 hE hr (numL_err most bs c hc)
theorem four_none (hc : c ≠ 0) (hE : ErR w E r) (hr : RdI E m w r bs c) :
    Calls Tryd.prog 36 #[.pointer (some ⟨r, 0, none⟩)] w fun e w' => e = .returned (.int .u32 0) ∧ RdI E m w' r bs c ∧ w.grownBy w' (some r) :=
  four_is E m bs [] bs c c r w hE hr (takeL_err 4 bs c hc)
theorem eight_none (hc : c ≠ 0) (hE : ErR w E r) (hr : RdI E m w r bs c) :
    Calls Tryd.prog 37 #[.pointer (some ⟨r, 0, none⟩)] w fun e w' => e = .returned (.int .u64 0) ∧ RdI E m w' r bs c ∧ w.grownBy w' (some r) :=
  eight_is E m bs [] bs c c r w hE hr (takeL_err 8 bs c hc)
end Go.Proofs.YtibfamhhjnaeiaaDoor.Sha
