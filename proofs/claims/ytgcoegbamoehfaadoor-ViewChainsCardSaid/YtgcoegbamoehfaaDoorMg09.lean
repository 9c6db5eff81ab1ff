/-
  Texts of this proof joined into one file: CnAdd, VwGet, TxC, TxC2. What each holds, and under which conditions, its own first sentence tells.
-/
import Derived.WalkSpells
import Derived.Carry
import Derived.Test.YtgcoegbamoehfaaDoorMg08
import Derived.Test.YtgcoegbamoehfaaDoorMg05
import Derived.Test.YtgcoegbamoehfaaDoorMg03
/-
  A coin is added to a set: its map turns, or is made. Conditions: the set lies where the pointer says; a place, a coin as the model has them; the errors are there.
-/
namespace Go.Proofs.YtgcoegbamoehfaaDoor.Sha
open Go Go.RowKit
/-- What a set says to a coin more. -/
def addR (l : List TSp) (p : TPt) (k : TMn) : Nat := if 2100000000000000 < k.val then 5 else if (getC l p).isSome then 6 else 0
def addL (l : List TSp) (p : TPt) (k : TMn) : List TSp := if addR l p k = 0 then l ++ [⟨p, k⟩] else l
theorem Kps.trans' {F : Nat → Prop} {w w1 w2 : World} {q : Nat} (h : Kps F w w1) (k : Kps (fun j => j ≠ q) w1 w2) (hq : w.heap.size < q) : Kps F w w2 :=
  ⟨k.os.trans h.os, k.tape.trans h.tape, k.output.trans h.output, Nat.le_trans h.size k.size, fun j hj hf => (k.block j (Nat.lt_of_lt_of_le hj h.size) (by omega)).trans (h.block j hj hf)⟩
set_option maxHeartbeats 2000000 in
set_option maxRecDepth 100000 in
theorem setadd_any (E : Nat → Addr) (w : World) (a : Nat) (m : Option Nat) (l : List TSp) (p : TPt) (k : TMn) (hE : EC w E) (hs : SetAt w a m l) (hp : PtOk p) (hk : MnOk k) :
    Calls Tryd.prog 6 #[.pointer (some ⟨a, 0, none⟩), .agg (ptC p).toArray, .agg (mnL k).toArray] w fun e w' =>
      e = .returned (errV E (addR l p k)) ∧ ∃ m', SetAt w' a m' (addL l p k) ∧ (m' = m ∨ ∃ b, m' = some b ∧ w.heap.size ≤ b) ∧ Kps (fun j => j ≠ a ∧ m ≠ some j) w w' := by
  have HP := Lib.hid hp
  have HK := Lib.hid hk
  have HE := Lib.hid hE
  have KSZ : Hid ((mnL k).toArray.size = 35) := mnL_size hk
  have AR : Hid (addR l p k = if 2100000000000000 < k.val then 5 else if (getC l p).isSome then 6 else 0) := rfl
  have AL : Hid (addL l p k = if addR l p k = 0 then l ++ [⟨p, k⟩] else l) := rfl
  have GN : Hid ((getC l p).isSome = false → getC l p = none) := getC_opt
  obtain ⟨ck, hck⟩ : ∃ ck, ck = mnL k := ⟨_, rfl⟩
  rw [← hck] at KSZ ⊢
  obtain ⟨r, hr⟩ : ∃ r, r = addR l p k := ⟨_, rfl⟩
  obtain ⟨l', hl'⟩ : ∃ l', l' = addL l p k := ⟨_, rfl⟩
  rw [← hr] at AR AL
  rw [← hl'] at AL
  rw [← hr, ← hl']
  have CKK := Lib.hid hck
  clear hr hl' hck
  have HS := Lib.hid hs
  have PSZ : Hid ((ptC p).toArray.size = 33) := ptC_size hp
  have CK : Hid (MnOk ((getC l p).getD mnZ)) := getD_ok hs.map.ok p
  obtain ⟨c, hc⟩ : ∃ c, c = (getC l p).getD mnZ := ⟨_, rfl⟩
  obtain ⟨b, hb⟩ : ∃ b, b = (getC l p).isSome := ⟨_, rfl⟩
  rw [← hc] at CK
  have LK : Hid (∀ W, Below w.heap.size w W → (Instr.lookup 30 (.map m) (.agg (ptC p).toArray) true).run Tryd.prog W = .ok (.tuple #[.agg (mnL c).toArray, .bool b]) W) := fun W hW => by
    rw [hc, hb]
    exact map_look (hs.below hW).map p hp
  rw [← hb] at GN AR
  have CSZ : Hid ((mnL c).toArray.size = 35) := mnL_size CK.out
  have CLN : Hid ((mnL c).length = 35) := mnL_length CK.out
  have CONE : Hid ((mnL c).toArray.all (·.oneCell') = true) := mnL_all c
  obtain ⟨cm, hcm⟩ : ∃ cm, cm = mnL c := ⟨_, rfl⟩
  obtain ⟨cp, hcp⟩ : ∃ cp, cp = ptC p := ⟨_, rfl⟩
  rw [← hcm] at LK CSZ CLN CONE
  rw [← hcp] at LK PSZ ⊢
  have CP := Lib.hid hcp
  clear hE hk hs hp hc hb hcm hcp
  obtain ⟨z, hz⟩ : ∃ z, z = k.val := ⟨_, rfl⟩
  have ZV := Lib.hid hz
  rw [← hz] at AR
  have KC : Hid (∀ (W : World) (g : Nat), W.heap[g]? = some (.cells ck.toArray 37 (0, 0)) → W.cell? ⟨g, 0, none⟩ = some (.int .u64 (z : Int))) := fun W g h => by
    rw [cell_of_row _ _ _ _ _ _ h, CKK.out, hz]
    rfl
  clear hz
  go_enter Tryd.func6, Tryd.ntmps6
  go_upto_region 1 with fail
  have f3 := row_below (heap_alloc_new w (.cells cp.toArray 28 (0, 0))) ((Below.refl _ _).alloc (Nat.le_refl _) (.cells ck.toArray 37 (0, 0)))
  have f4 := heap_alloc_new (w.alloc (.cells cp.toArray 28 (0, 0))) (.cells ck.toArray 37 (0, 0))
  have b0 := ((Below.refl w.heap.size w).alloc (Nat.le_refl _) (.cells cp.toArray 28 (0, 0))).alloc (by simp) (.cells ck.toArray 37 (0, 0))
  rw [World.size_alloc] at f4
  generalize hw1 : World.alloc _ _ = w1
  have e1 : (w.alloc (.cells cp.toArray 28 (0, 0))).alloc (.cells ck.toArray 37 (0, 0)) = w1 := hw1
  rw [e1] at f3 f4 b0
  obtain ⟨g3, hg3⟩ : ∃ g3, g3 = w.heap.size := ⟨_, rfl⟩
  have G3 : Hid (w.heap.size ≤ g3) := by show _ ≤ _; rw [hg3]; exact Nat.le_refl _
  rw [← hg3] at f3 f4 ⊢
  have F3 := Lib.hid f3
  have F4 := Lib.hid f4
  have B0 := Lib.hid b0
  have HS1 := Lib.hid (HS.out.below b0)
  have LK1 : Hid (∀ W, Below w1.heap.size w1 W → (Instr.lookup 30 (.map m) (.agg cp.toArray) true).run Tryd.prog W = .ok (.tuple #[.agg cm.toArray, .bool b]) W) := fun W hW => LK.out W (B0.out.trans (hW.mono B0.out.size))
  have z0 := KC.out w1 _ f4
  have cv : w1.cell? ⟨0, 0, none⟩ = some (.iface 120 (.pointer (some (E 4)))) := (HE.out.below b0).value
  clear f3 f4 b0 hw1 e1 hg3
  by_cases hv : 2100000000000000 < z
  · have hv' : (2100000000000000 : Int) < (z : Int) := by omega
    have HV := Lib.hid hv
    clear hv
    go_wp2_with fail
    go_ret
    have er : r = 5 := by rw [AR.out, if_pos HV.out]
    have el : l' = l := by rw [AL.out, er]; rfl
    subst er el
    exact ⟨rfl, m, HS1.out, .inl rfl, Kps.new B0.out⟩
  · have hv' : ¬ (2100000000000000 : Int) < (z : Int) := by omega
    have HV := Lib.hid hv
    clear hv
    go_upto_region 3 with fail
    clear z0 cv hv'
    refine wp_region_held_drew (S := (fun w' => Below w1.heap.size w1 w')) (by kernel_rfl) (Below.drew (Below.refl _ _)) (fun hHeld => ?_)
    generalize hwd : w1.drew = wd at  hHeld ⊢
    clear hwd
    refine held_take (i := 0) (v := (.pointer (some ⟨a, 0, none⟩))) rfl (by kernel_rfl) (by kernel_rfl) (by kernel_rfl) (fun _ _ _ h => h) (Or.inl ⟨by rfl, fun w' _ => by kernel_rfl⟩) hHeld ?_
    go_frame
    refine held_take (i := 1) (v := (.pointer (some ⟨a, 0, none⟩))) rfl (by kernel_rfl) (by kernel_rfl) (by kernel_rfl) (fun _ _ _ h => h) (Or.inl ⟨by rfl, fun w' _ => by kernel_rfl⟩) hHeld ?_
    go_frame
    refine held_take (i := 2) (v := (.pointer (some ⟨a, 0, none⟩))) rfl (by kernel_rfl) (by kernel_rfl) (by kernel_rfl) (fun _ _ _ h => h) (Or.inl ⟨by rfl, fun w' _ => by kernel_rfl⟩) hHeld ?_
    go_frame
    refine held_take (i := 3) (v := (.map m)) rfl (by kernel_rfl) (by kernel_rfl) (by kernel_rfl) (fun _ _ _ h => h) (yieldsIf_load_one (by rfl) 30 (.tmp 16) rfl a (0) rfl _ _ (fun w' hw' => (HS1.out.below hw').cell) Tryd.underlying30 rfl) hHeld ?_
    go_frame
    refine held_take (i := 4) (v := (.agg cp.toArray)) rfl (by kernel_rfl) (by kernel_rfl) (by kernel_rfl) (fun _ _ _ h => h) (yieldsIf_load_row (by rfl) 28 (.tmp 4) rfl g3 rfl 28 cp.toArray (0, 0) _ (fun w' hw' => row_below F3.out hw') Tryd.underlying28 rfl (by rw [PSZ.out]; kernel_rfl)) hHeld ?_
    go_frame
    refine held_take (i := 5) (v := (.tuple #[.agg cm.toArray, .bool b])) rfl (by kernel_rfl) (by kernel_rfl) (by kernel_rfl) (fun _ _ _ h => h) (yieldsIf_lookup (by rfl) 30 (.tmp 17) (.tmp 18) true rfl _ _ _ rfl rfl (fun w' hw' => LK1.out w' hw')) hHeld ?_
    go_frame
    refine held_take (i := 6) (v := (.tuple #[.agg cm.toArray, .bool b])) rfl (by kernel_rfl) (by kernel_rfl) (by kernel_rfl) (fun _ _ _ h => h) (Or.inl ⟨by rfl, fun w' _ => by kernel_rfl⟩) hHeld ?_
    go_frame
    refine held_take (i := 7) (v := (.agg cm.toArray)) rfl (by kernel_rfl) (by kernel_rfl) (by kernel_rfl) (fun _ _ _ h => h) (Or.inl ⟨by rfl, fun w' _ => by kernel_rfl⟩) hHeld ?_
    go_frame
    refine held_take (i := 8) (v := (.bool b)) rfl (by kernel_rfl) (by kernel_rfl) (by kernel_rfl) (fun _ _ _ h => h) (Or.inl ⟨by rfl, fun w' _ => by kernel_rfl⟩) hHeld ?_
    go_frame
    refine wpAnyH_ready (rs := [9]) (by kernel_rfl) (by simp) (held_cons rfl (fun K hK => ?_) AllReadyH.nil)
    go_simp
    have nf := heap_alloc_new wd (.cells (mnL mnZ).toArray 37 (0, 0))
    have bb := (Below.refl wd.heap.size wd).alloc (Nat.le_refl _) (.cells (mnL mnZ).toArray 37 (0, 0))
    obtain ⟨gv1, hgv1⟩ : ∃ g, g = wd.heap.size := ⟨_, rfl⟩
    have GF6 : Hid (w1.heap.size ≤ gv1) := by show _ ≤ _; rw [hgv1]; exact hHeld.size
    generalize hqv1 : World.alloc _ _ = v1
    have ev1 : wd.alloc (.cells (mnL mnZ).toArray 37 (0, 0)) = v1 := hqv1
    rw [ev1] at nf bb
    rw [← hgv1] at nf ⊢
    have F6 := Lib.hid nf
    have hv1 := hHeld.trans (bb.mono hHeld.size)
    clear nf bb hqv1 ev1 hgv1 hHeld
    refine hK.out _ _ hv1 (fun hHeld => ?_)
    clear hK K hv1
    refine wpAnyH_ready (rs := [10]) (by kernel_rfl) (by simp) (held_cons rfl (fun K hK => ?_) AllReadyH.nil)
    rw [if_pos (by rfl)]
    refine wp_store_whole 37 (.tmp 7) (.tmp 20) rfl gv1 (mnL mnZ) cm 37 rfl rfl (by rw [mnL_length mnZ_ok, CLN.out]) F6.out (by rw [CLN.out]; kernel_rfl) (CONE.out) ?_
    intro v2 q1 q2
    have F6 := Lib.hid q1
    have hv2 := hHeld.grown q2 hHeld.size (fun k hk => by cases hk; exact GF6.out)
    clear q1 q2 hHeld
    go_frame
    refine hK.out _ _ hv2 (fun hHeld => ?_)
    clear hK K hv2
    refine held_take (i := 11) (v := (.bool b)) rfl (by kernel_rfl) (by kernel_rfl) (by kernel_rfl) (fun _ _ _ h => h) (Or.inl ⟨by rfl, fun w' _ => by kernel_rfl⟩) hHeld ?_
    go_frame
    refine wpAnyH_done (by kernel_rfl) ?_ _
    obtain ⟨v9, hv9⟩ : ∃ v9, v9 = v2 := ⟨_, rfl⟩
    rw [← hv9] at F6 hHeld ⊢
    clear hv9
    have B1 := Lib.hid (B0.out.trans (hHeld.mono B0.out.size))
    have F4 := Lib.hid (row_below F4.out hHeld)
    have F3 := Lib.hid (row_below F3.out hHeld)
    have HS2 := Lib.hid (HS1.out.below hHeld)
    clear hHeld
    cases b with
    | true =>
      have ct : v9.cell? ⟨1, 0, none⟩ = some (.iface 120 (.pointer (some (E 5)))) := (HE.out.below B1.out).twice
      go_wp2_with fail
      go_ret
      have er : r = 6 := by rw [AR.out, if_neg HV.out]; rfl
      have el : l' = l := by rw [AL.out, er]; rfl
      subst er el
      exact ⟨rfl, m, HS2.out, .inl rfl, Kps.new B1.out⟩
    | false =>
      have er : r = 0 := by rw [AR.out, if_neg HV.out]; rfl
      have el : l' = l ++ [⟨p, k⟩] := by rw [AL.out, er]; rfl
      subst er el
      have AL2 : Hid (a < w.heap.size) := (Array.getElem?_eq_some_iff.1 HS.out.box).1
      have GS : Hid (w.heap.size < v9.heap.size) := Nat.lt_of_le_of_lt G3.out (Array.getElem?_eq_some_iff.1 F3.out).1
      have cb := HS2.out.cell
      have qn : ∀ (W : World) (q : Option Nat), (binOp .eql 30 (.map q) (.map none)).run Tryd.prog W = .ok (.bool q.isNone) W := fun W q => run_eql_map_nil W _ _ _ q map_under
      cases m with
      | some q =>
        have QL : Hid (q < w.heap.size) := HS.out.map.lt q rfl
        have AQ : Hid (a ≠ q) := fun e => HS2.out.ne (by rw [e])
        have Q3 : Hid (g3 ≠ q) := by have := QL.out; have := G3.out; show g3 ≠ q; omega
        have Q4 : Hid (g3 + 1 ≠ q) := by have := QL.out; have := G3.out; show g3 + 1 ≠ q; omega
        have MA : Hid (MapAt v9 q l) := HS2.out.map
        have BX := Lib.hid HS2.out.box
        have K0 : Hid (Kps (fun j => j ≠ a ∧ some q ≠ some j) w v9) := Kps.new B1.out
        go_upto_region 8 with fail
        clear cb qn
        refine wp_region_held_drew (S := (fun w' => Kps (fun j => j ≠ q) v9 w')) (by kernel_rfl) (Kps.new (Below.drew (Below.refl _ _))) (fun hHeld => ?_)
        have MA := Lib.hid (MA.out.kps (F := fun _ => True) (Kps.new (Below.drew (Below.refl _ _))) trivial)
        generalize hwd : v9.drew = wd at MA hHeld ⊢
        clear hwd
        refine held_take (i := 0) (v := (.pointer (some ⟨a, 0, none⟩))) rfl (by kernel_rfl) (by kernel_rfl) (by kernel_rfl) (fun _ _ _ h => h) (Or.inl ⟨by rfl, fun w' _ => by kernel_rfl⟩) hHeld ?_
        go_frame
        refine held_take (i := 1) (v := (.pointer (some ⟨a, 0, none⟩))) rfl (by kernel_rfl) (by kernel_rfl) (by kernel_rfl) (fun _ _ _ h => h) (Or.inl ⟨by rfl, fun w' _ => by kernel_rfl⟩) hHeld ?_
        go_frame
        refine held_take (i := 2) (v := (.pointer (some ⟨a, 0, none⟩))) rfl (by kernel_rfl) (by kernel_rfl) (by kernel_rfl) (fun _ _ _ h => h) (Or.inl ⟨by rfl, fun w' _ => by kernel_rfl⟩) hHeld ?_
        go_frame
        refine held_take (i := 3) (v := (.map (some q))) rfl (by kernel_rfl) (by kernel_rfl) (by kernel_rfl) (fun _ _ _ h => h) (yieldsIf_load_one (by rfl) 30 (.tmp 35) rfl a (0) rfl _ _ (fun w' hw' => by rw [cell_of_row _ _ _ _ _ _ (row_kps BX.out hw' AQ.out)]; rfl) Tryd.underlying30 rfl) hHeld ?_
        go_frame
        refine held_take (i := 4) (v := (.agg cp.toArray)) rfl (by kernel_rfl) (by kernel_rfl) (by kernel_rfl) (fun _ _ _ h => h) (yieldsIf_load_row (by rfl) 28 (.tmp 4) rfl g3 rfl 28 cp.toArray (0, 0) _ (fun w' hw' => row_kps F3.out hw' Q3.out) Tryd.underlying28 rfl (by rw [PSZ.out]; kernel_rfl)) hHeld ?_
        go_frame
        refine held_take (i := 5) (v := (.agg ck.toArray)) rfl (by kernel_rfl) (by kernel_rfl) (by kernel_rfl) (fun _ _ _ h => h) (yieldsIf_load_row (by rfl) 37 (.tmp 5) rfl (g3 + 1) rfl 37 ck.toArray (0, 0) _ (fun w' hw' => row_kps F4.out hw' Q4.out) Tryd.underlying37 rfl (by rw [KSZ.out]; kernel_rfl)) hHeld ?_
        go_frame
        refine wpAnyH_ready (rs := [6]) (by kernel_rfl) (by simp) (held_cons rfl (fun K hK => ?_) AllReadyH.nil)
        rw [if_pos (by rfl)]
        refine wp_put_cn (.tmp 36) (.tmp 37) (.tmp 38) rfl q l p HP.out k HK.out (GN.out rfl) rfl (by rw [← CP.out]; rfl) (by rw [← CKK.out]; rfl) MA.out ?_
        intro v1 q1 q2
        have MB := Lib.hid q1
        have hv1 : Kps (fun j => j ≠ q) v9 v1 := hHeld.trans (Kps.grown q2 fun j _ hj e => hj (Option.some.inj e))
        clear q1 q2 hHeld MA
        go_frame
        refine hK.out _ _ hv1 (fun hHeld => ?_)
        clear hK K hv1
        refine wpAnyH_done (by kernel_rfl) ?_ _
        have BY := Lib.hid (row_kps BX.out hHeld AQ.out)
        have HH := Lib.hid hHeld
        clear hHeld
        go_wp2_with fail
        go_ret
        exact ⟨rfl, some q, ⟨BY.out, MB.out⟩, .inl rfl, (Kps.new B1.out).trans (HH.out.mono fun j _ hj e => hj.2 (by rw [e]))⟩
      | none =>
        obtain rfl : l = [] := HS.out.map
        have hmm := @run_makeMap Tryd.prog
        have bx := row_below HS2.out.box ((Below.refl _ _).alloc (Nat.le_refl _) (.map #[] 0))
        have ma := map_made v9
        have b9 := (Below.refl v9.heap.size v9).alloc (Nat.le_refl _) (.map #[] 0)
        have BX0 := Lib.hid bx
        have MA0 := Lib.hid ma
        have B9 := Lib.hid b9
        clear bx ma b9
        go_upto_region 8 with ((with_reducible show wpList _ _ _ _ _ _); refine wpList_store_part rfl 30 (.tmp 32) (.tmp 30) rfl a 0 [] [.map none] [] [.map (some v9.heap.size)] 32 (.map (some v9.heap.size)) rfl rfl rfl rfl rfl BX0.out (by kernel_rfl) (by simp [Value.oneCell']) ?_; intro w5 q1 q2; have Q1 := Lib.hid q1; have Q2 := Lib.hid q2; clear q1 q2; go_frame)
        clear cb qn hmm
        obtain ⟨q, hq⟩ : ∃ q, q = v9.heap.size := ⟨_, rfl⟩
        rw [← hq] at Q1 MA0
        have QL : Hid (w.heap.size < q) := by show _ < _; rw [hq]; exact GS.out
        have AQ : Hid (a ≠ q) := by have := AL2.out; have := QL.out; show a ≠ q; omega
        have Q3 : Hid (g3 ≠ q) := by have := (Array.getElem?_eq_some_iff.1 F3.out).1; show g3 ≠ q; omega
        have Q4 : Hid (g3 + 1 ≠ q) := by have := (Array.getElem?_eq_some_iff.1 F4.out).1; show g3 + 1 ≠ q; omega
        have KA : Hid (Kps (fun j => j ≠ a) v9 w5) := (Kps.new B9.out).trans (Kps.grown Q2.out fun j _ hj e => hj (Option.some.inj e))
        have MA : Hid (MapAt w5 q []) := MA0.out.kps (F := fun j => j ≠ a) (Kps.grown Q2.out fun j _ hj e => hj (Option.some.inj e)) (fun e => AQ.out e.symm)
        have BX : Hid (w5.heap[a]? = some (.cells #[.map (some q)] 32 (0, 0))) := Q1.out
        have F3 := Lib.hid (row_kps F3.out KA.out (by have := AL2.out; have := G3.out; show g3 ≠ a; omega))
        have F4 := Lib.hid (row_kps F4.out KA.out (by have := AL2.out; have := G3.out; show g3 + 1 ≠ a; omega))
        have V5 : Hid (w.heap.size ≤ v9.heap.size) := Nat.le_of_lt GS.out
        clear hq Q1 Q2 BX0 MA0
        refine wp_region_held_drew (S := (fun w' => Kps (fun j => j ≠ q) w5 w')) (by kernel_rfl) (Kps.new (Below.drew (Below.refl _ _))) (fun hHeld => ?_)
        have MA := Lib.hid (MA.out.kps (F := fun _ => True) (Kps.new (Below.drew (Below.refl _ _))) trivial)
        generalize hwd : w5.drew = wd at MA hHeld ⊢
        clear hwd
        refine held_take (i := 0) (v := (.pointer (some ⟨a, 0, none⟩))) rfl (by kernel_rfl) (by kernel_rfl) (by kernel_rfl) (fun _ _ _ h => h) (Or.inl ⟨by rfl, fun w' _ => by kernel_rfl⟩) hHeld ?_
        go_frame
        refine held_take (i := 1) (v := (.pointer (some ⟨a, 0, none⟩))) rfl (by kernel_rfl) (by kernel_rfl) (by kernel_rfl) (fun _ _ _ h => h) (Or.inl ⟨by rfl, fun w' _ => by kernel_rfl⟩) hHeld ?_
        go_frame
        refine held_take (i := 2) (v := (.pointer (some ⟨a, 0, none⟩))) rfl (by kernel_rfl) (by kernel_rfl) (by kernel_rfl) (fun _ _ _ h => h) (Or.inl ⟨by rfl, fun w' _ => by kernel_rfl⟩) hHeld ?_
        go_frame
        refine held_take (i := 3) (v := (.map (some q))) rfl (by kernel_rfl) (by kernel_rfl) (by kernel_rfl) (fun _ _ _ h => h) (yieldsIf_load_one (by rfl) 30 (.tmp 35) rfl a (0) rfl _ _ (fun w' hw' => by rw [cell_of_row _ _ _ _ _ _ (row_kps BX.out hw' AQ.out)]; rfl) Tryd.underlying30 rfl) hHeld ?_
        go_frame
        refine held_take (i := 4) (v := (.agg cp.toArray)) rfl (by kernel_rfl) (by kernel_rfl) (by kernel_rfl) (fun _ _ _ h => h) (yieldsIf_load_row (by rfl) 28 (.tmp 4) rfl g3 rfl 28 cp.toArray (0, 0) _ (fun w' hw' => row_kps F3.out hw' Q3.out) Tryd.underlying28 rfl (by rw [PSZ.out]; kernel_rfl)) hHeld ?_
        go_frame
        refine held_take (i := 5) (v := (.agg ck.toArray)) rfl (by kernel_rfl) (by kernel_rfl) (by kernel_rfl) (fun _ _ _ h => h) (yieldsIf_load_row (by rfl) 37 (.tmp 5) rfl (g3 + 1) rfl 37 ck.toArray (0, 0) _ (fun w' hw' => row_kps F4.out hw' Q4.out) Tryd.underlying37 rfl (by rw [KSZ.out]; kernel_rfl)) hHeld ?_
        go_frame
        refine wpAnyH_ready (rs := [6]) (by kernel_rfl) (by simp) (held_cons rfl (fun K hK => ?_) AllReadyH.nil)
        rw [if_pos (by rfl)]
        refine wp_put_cn (.tmp 36) (.tmp 37) (.tmp 38) rfl q [] p HP.out k HK.out (GN.out rfl) rfl (by rw [← CP.out]; rfl) (by rw [← CKK.out]; rfl) MA.out ?_
        intro v1 q1 q2
        have MB := Lib.hid q1
        have hv1 : Kps (fun j => j ≠ q) w5 v1 := hHeld.trans (Kps.grown q2 fun j _ hj e => hj (Option.some.inj e))
        clear q1 q2 hHeld MA
        go_frame
        refine hK.out _ _ hv1 (fun hHeld => ?_)
        clear hK K hv1
        refine wpAnyH_done (by kernel_rfl) ?_ _
        have BY := Lib.hid (row_kps BX.out hHeld AQ.out)
        have HH := Lib.hid hHeld
        clear hHeld
        go_wp2_with fail
        go_ret
        exact ⟨rfl, some q, ⟨BY.out, MB.out⟩, .inr ⟨q, rfl, Nat.le_of_lt QL.out⟩, ((Kps.new B1.out).trans (KA.out.mono fun j _ hj => hj)).trans' HH.out QL.out⟩
end Go.Proofs.YtgcoegbamoehfaaDoor.Sha

/-
  Package view: a place, a view over a set, what is at a place. Nothing that was there turns. Conditions: the view lies where the pointer says; a place as the model has it.
-/
namespace Go.Proofs.YtgcoegbamoehfaaDoor.Sha
open Go Go.RowKit
set_option maxHeartbeats 1000000 in
set_option maxRecDepth 100000 in
theorem vwplace_any (id : List UInt8) (n : Nat) (hi : id.length = 32) (hn : n ≤ 4294967295) (w : World) :
    Calls Tryd.prog 23 #[hK id, .int .i64 (n : Int)] w fun e w' => e = .returned (.agg (ptC ⟨id, n⟩).toArray) ∧ Below w.heap.size w w' := by
  have bp := Lib.hid (built_pt id n hi)
  have LI : Hid ((id.map bV).length = 32) := by show _ = _; rw [List.length_map, hi]
  have SI : Hid ((id.map bV).toArray.size = 32) := by show _ = _; rw [List.size_toArray]; exact LI.out
  have PS : Hid ((ptC ⟨id, n⟩).toArray.size = 33) := ptC_size ⟨hi, hn⟩
  have PA : Hid ((ptC ⟨id, n⟩).toArray.all (·.oneCell') = true) := ptC_all _
  have nw : IntKind.u32.wrap (n : Int) = (n : Int) := by
    simp [IntKind.wrap, IntKind.signed, IntKind.bits]
    omega
  have bp : Hid (Tryd.prog.built 28 [(0, .agg (id.map bV).toArray), (1, .int .u32 (n : Int))] = some (ptC ⟨id, n⟩).toArray) := bp
  show Calls _ _ #[.agg (id.map bV).toArray, _] _ _
  obtain ⟨ci, hci⟩ : ∃ ci, ci = id.map bV := ⟨_, rfl⟩
  obtain ⟨cp, hcp⟩ : ∃ cp, cp = ptC ⟨id, n⟩ := ⟨_, rfl⟩
  rw [← hci, ← hcp] at bp
  rw [← hci] at LI SI ⊢
  rw [← hcp] at PS PA ⊢
  clear hci hcp hi hn
  go_enter Tryd.func23, Tryd.ntmps23
  go_upto_region 1 with fail
  have f3 := row_below (heap_alloc_new w (.cells ci.toArray 25 (0, 0))) ((Below.refl _ _).alloc (Nat.le_refl _) (.cells (List.replicate 32 (bV 0) ++ [nV 0]).toArray 28 (0, 0)))
  have f4 := heap_alloc_new (w.alloc (.cells ci.toArray 25 (0, 0))) (.cells (List.replicate 32 (bV 0) ++ [nV 0]).toArray 28 (0, 0))
  have b0 := ((Below.refl w.heap.size w).alloc (Nat.le_refl _) (.cells ci.toArray 25 (0, 0))).alloc (by simp) (.cells (List.replicate 32 (bV 0) ++ [nV 0]).toArray 28 (0, 0))
  rw [World.size_alloc] at f4
  generalize hw1 : World.alloc _ _ = w1
  have e1 : (w.alloc (.cells ci.toArray 25 (0, 0))).alloc (.cells (List.replicate 32 (bV 0) ++ [nV 0]).toArray 28 (0, 0)) = w1 := hw1
  rw [e1] at f3 f4 b0
  have F3 := Lib.hid f3
  have F4 := Lib.hid f4
  have B0 := Lib.hid b0
  clear f3 f4 b0 hw1 e1
  go_wp2_with ((with_reducible show wpList _ _ _ _ _ _); first | (refine wpList_load_row rfl 25 (.tmp 2) rfl w.heap.size rfl 25 ci.toArray (0, 0) _ F3.out Tryd.underlying25 rfl (by rw [SI.out]; kernel_rfl) ?_; go_frame) | (refine wpList_buildTo rfl 28 _ rfl _ rfl cp.toArray (by rw [← bp.out]; kernel_rfl) ?_; go_frame) | (refine wpList_store_row rfl 28 (.tmp 4) (.tmp 8) rfl (w.heap.size + 1) cp.toArray rfl rfl 28 _ F4.out (by rw [PS.out]; kernel_rfl) (by rw [PS.out]; rfl) PA.out ?_; go_frame))
  refine bodyPost_ret (results_cell_row rfl _ _ (w.heap.size + 1) 28 cp.toArray (0, 0) _ rfl (setRow_heap _ _ _ _ _ _ F4.out) Tryd.underlying28 rfl (by rw [PS.out]; kernel_rfl)) rfl ?_
  exact ⟨rfl, below_setRow B0.out (by omega) _⟩
set_option maxHeartbeats 1000000 in
set_option maxRecDepth 100000 in
theorem vwover_any (w : World) (a : Nat) (m : Option Nat) (l : List TSp) (hs : SetAt w a m l) :
    Calls Tryd.prog 7 #[.pointer (some ⟨a, 0, none⟩)] w fun e w' => ∃ b mb sb, e = .returned (.pointer (some ⟨b, 0, none⟩)) ∧ ViewAt w' b a m mb sb l [] [] ∧ w.heap.size ≤ b ∧ w.heap.size ≤ mb ∧ w.heap.size ≤ sb ∧ Below w.heap.size w w' := by
  have HS := Lib.hid hs
  clear hs
  have hmm := @run_makeMap Tryd.prog
  go_enter Tryd.func7, Tryd.ntmps7
  go_wp2
  go_ret
  have b1 := (Below.refl w.heap.size w).alloc (Nat.le_refl _) (.map #[] 0)
  have b2 := b1.alloc (by simp) (.map #[] 0)
  have b3 := b2.alloc (by simp only [World.size_alloc]; omega) (.cells #[.pointer (some ⟨a, 0, none⟩), .map (some w.heap.size), .map (some (w.heap.size + 1))] 65 (0, 0))
  have m1 : MpAt hK (fun x : Value × List TMn => x.1) (fun h => h.length = 32) (w.alloc (.map #[] 0)) w.heap.size [] := gm_made w
  have m2 : MpAt pK hK PtOk ((w.alloc (.map #[] 0)).alloc (.map #[] 0)) (w.alloc (.map #[] 0)).heap.size [] := gm_made _
  rw [World.size_alloc] at m2
  have f3 := heap_alloc_new ((w.alloc (.map #[] 0)).alloc (.map #[] 0)) (.cells #[.pointer (some ⟨a, 0, none⟩), .map (some w.heap.size), .map (some (w.heap.size + 1))] 65 (0, 0))
  rw [World.size_alloc, World.size_alloc] at f3
  refine ⟨w.heap.size + 1 + 1, w.heap.size, w.heap.size + 1, rfl, ⟨f3, HS.out.below b3, (m1.below ((Below.refl _ _).alloc (Nat.le_refl _) _)).below ((Below.refl _ _).alloc (Nat.le_refl _) _), m2.below ((Below.refl _ _).alloc (Nat.le_refl _) _), fun x hx => (by cases hx), fun x hx => (by cases hx), ?_⟩, by omega, by omega, by omega, b3⟩
  refine ⟨by omega, fun e => ?_, fun e => ?_⟩
  · have := HS.out.map.lt _ e; omega
  · have := HS.out.map.lt _ e; omega
set_option maxHeartbeats 4000000 in
set_option maxRecDepth 100000 in
theorem vwget_any (w : World) (b a mb sb : Nat) (m : Option Nat) (l : List TSp) (made : Made) (gone : Gone) (p : TPt) (hv : ViewAt w b a m mb sb l made gone) (hp : PtOk p) :
    Calls Tryd.prog 10 #[.pointer (some ⟨b, 0, none⟩), .agg (ptC p).toArray] w fun e w' => e = .returned (.tuple #[.agg (mnL ((vGet l made gone p).getD mnZ)).toArray, .bool (vGet l made gone p).isSome]) ∧ Below w.heap.size w w' := by
  have HV := Lib.hid hv
  have HP := Lib.hid hp
  have PSZ : Hid ((ptC p).toArray.size = 33) := ptC_size hp
  have LKS : Hid (∀ W, Below w.heap.size w W → (Instr.lookup 63 (.map (some sb)) (.agg (ptC p).toArray) true).run Tryd.prog W = .ok (.tuple #[.agg (((getG gone p).getD zH).map bV).toArray, .bool (getG gone p).isSome]) W) := fun W hW => gm_look mty_spent (hv.below hW).gp p hp
  have LG : Hid (((getG gone p).getD zH).length = 32) := by
    show _ = _
    cases hg : getG gone p with
    | none => rfl
    | some i => exact hv.ids _ (getG_mem hg)
  have LKM : Hid (∀ W, Below w.heap.size w W → (Instr.lookup 62 (.map (some mb)) (.agg (p.h.map bV).toArray) false).run Tryd.prog W = .ok ((getG made p.h).getD (.slice none 0 0, [])).1 W) := fun W hW => gm_look1 mty_made (hv.below hW).mp p.h hp.1
  have LOOK : Hid (∀ W, Below w.heap.size w W → RwAt 35 W ((getG made p.h).getD (.slice none 0 0, [])).1 ((outsV made p.h).map mnL)) := fun W hW => ((hv.below hW).look p.h).1
  have LOK : Hid ((∀ c ∈ outsV made p.h, MnOk c) ∧ (outsV made p.h).length ≤ 1000) := (hv.look p.h).2
  have V1 : Hid ((getG gone p).isSome = true → vGet l made gone p = none) := fun h => by unfold vGet; rw [if_pos h]
  have V2 : Hid ((getG gone p).isSome = false → (getC l p).isSome = true → vGet l made gone p = getC l p) := fun h h2 => by unfold vGet; rw [if_neg (by rw [h]; decide), if_pos h2]
  have V3 : Hid ((getG gone p).isSome = false → (getC l p).isSome = false → vGet l made gone p = (outsV made p.h)[p.n]?) := fun h h2 => by unfold vGet; rw [if_neg (by rw [h]; decide), if_neg (by rw [h2]; decide)]
  obtain ⟨G, hG⟩ : ∃ G, G = vGet l made gone p := ⟨_, rfl⟩
  rw [← hG] at V1 V2 V3 ⊢
  obtain ⟨os, hos⟩ : ∃ os, os = outsV made p.h := ⟨_, rfl⟩
  rw [← hos] at LOOK LOK V3
  obtain ⟨vo, hvo⟩ : ∃ vo, vo = ((getG made p.h).getD (.slice none 0 0, [])).1 := ⟨_, rfl⟩
  rw [← hvo] at LKM LOOK
  obtain ⟨spo, capo, evo⟩ : ∃ spo capo, vo = .slice spo os.length capo := by
    obtain ⟨sp, cap, e⟩ := (LOOK.out w (Below.refl _ _)).shape
    exact ⟨sp, cap, by rw [e, List.length_map]⟩
  subst evo
  obtain ⟨bg, hbg⟩ : ∃ bg, bg = (getG gone p).isSome := ⟨_, rfl⟩
  rw [← hbg] at LKS V1 V2 V3
  obtain ⟨ig, hig⟩ : ∃ ig, ig = (getG gone p).getD zH := ⟨_, rfl⟩
  rw [← hig] at LKS LG
  have LIG : Hid ((ig.map bV).length = 32) := by show _ = _; rw [List.length_map]; exact LG.out
  have SIG : Hid ((ig.map bV).toArray.size = 32) := by show _ = _; rw [List.size_toArray]; exact LIG.out
  have AIG : Hid ((ig.map bV).toArray.all (·.oneCell') = true) := bV_one _
  obtain ⟨ci, hci⟩ : ∃ ci, ci = ig.map bV := ⟨_, rfl⟩
  rw [← hci] at LKS LIG SIG AIG
  have CK : Hid (MnOk ((getC l p).getD mnZ)) := getD_ok hv.set.map.ok p
  obtain ⟨cc, hcc⟩ : ∃ cc, cc = (getC l p).getD mnZ := ⟨_, rfl⟩
  obtain ⟨bc, hbc⟩ : ∃ bc, bc = (getC l p).isSome := ⟨_, rfl⟩
  have SG : Hid (∀ W, Below w.heap.size w W → Calls Tryd.prog 16 #[.pointer (some ⟨a, 0, none⟩), .agg (ptC p).toArray] W fun e w' => e = .returned (.tuple #[.agg (mnL cc).toArray, .bool bc]) ∧ Below W.heap.size W w') := fun W hW => by
    rw [hcc, hbc]
    exact setget_any W a m l p (hv.below hW).set hp
  have CC : Hid (bc = true → (getC l p).getD mnZ = cc) := fun _ => hcc.symm
  have CS : Hid (bc = true → getC l p = some cc) := fun h => by
    cases hx : getC l p with
    | none => rw [hbc, hx] at h; cases h
    | some c => rw [hcc, hx]; rfl
  rw [← hbc] at V2 V3
  rw [← hcc] at CK
  have CSZ : Hid ((mnL cc).toArray.size = 35) := mnL_size CK.out
  have CLN : Hid ((mnL cc).length = 35) := mnL_length CK.out
  have CONE : Hid ((mnL cc).toArray.all (·.oneCell') = true) := mnL_all cc
  obtain ⟨cm, hcm⟩ : ∃ cm, cm = mnL cc := ⟨_, rfl⟩
  rw [← hcm] at SG CSZ CLN CONE
  have CM := Lib.hid hcm
  have KN : Hid (∀ (W : World) (g : Nat), W.heap[g]? = some (.cells (ptC p).toArray 28 (0, 0)) → W.rangeAt g 0 (p.h.map bV) ∧ W.cell? ⟨g, 0 + 32, none⟩ = some (.int .u32 (p.n : Int))) := fun W g q => ⟨pt_hash_r (range_of_box q), pt_num_r hp.1 (range_of_box q)⟩
  have LH : Hid ((p.h.map bV).length = 32) := by show _ = _; rw [List.length_map, hp.1]
  obtain ⟨ch, hch⟩ : ∃ ch, ch = p.h.map bV := ⟨_, rfl⟩
  rw [← hch] at LKM KN LH
  obtain ⟨pn, hpn⟩ : ∃ pn, pn = p.n := ⟨_, rfl⟩
  have PN : Hid (pn ≤ 4294967295) := by show _ ≤ _; rw [hpn]; exact hp.2
  rw [← hpn] at KN V3
  obtain ⟨cp, hcp⟩ : ∃ cp, cp = ptC p := ⟨_, rfl⟩
  rw [← hcp] at LKS PSZ SG KN ⊢
  obtain ⟨no, hno⟩ : ∃ no, no = os.length := ⟨_, rfl⟩
  have NO := Lib.hid hno
  rw [← hno] at LKM LOOK LOK
  clear hv hp hG hos hvo hbg hig hci hcc hbc hcm hch hcp hno hpn
  go_enter Tryd.func10, Tryd.ntmps10
  go_upto_region 1 with fail
  have f3 := row_below (heap_alloc_new w (.cells cp.toArray 28 (0, 0))) ((Below.refl _ _).alloc (Nat.le_refl _) (.cells (mnL mnZ).toArray 37 (0, 0)))
  have f4 := heap_alloc_new (w.alloc (.cells cp.toArray 28 (0, 0))) (.cells (mnL mnZ).toArray 37 (0, 0))
  have b0 := ((Below.refl w.heap.size w).alloc (Nat.le_refl _) (.cells cp.toArray 28 (0, 0))).alloc (by simp) (.cells (mnL mnZ).toArray 37 (0, 0))
  rw [World.size_alloc] at f4
  generalize hw1 : World.alloc _ _ = w1
  have e1 : (w.alloc (.cells cp.toArray 28 (0, 0))).alloc (.cells (mnL mnZ).toArray 37 (0, 0)) = w1 := hw1
  rw [e1] at f3 f4 b0
  obtain ⟨g3, hg3⟩ : ∃ g3, g3 = w.heap.size := ⟨_, rfl⟩
  have G3 : Hid (w.heap.size ≤ g3) := by show _ ≤ _; rw [hg3]; exact Nat.le_refl _
  rw [← hg3] at f3 f4 ⊢
  have F3 := Lib.hid f3
  have F4 := Lib.hid f4
  have B0 := Lib.hid b0
  have HV1 := Lib.hid (HV.out.below b0)
  clear f3 f4 b0 hw1 e1 hg3 HV
  have ZSZ : Hid ((mnL mnZ).toArray.size = 35) := by show _ = _; kernel_rfl
  have ZONE : Hid ((mnL mnZ).toArray.all (·.oneCell') = true) := mnL_all _
  refine wp_region_held_drew (S := (fun w' => Below w1.heap.size w1 w')) (by kernel_rfl) (Below.drew (Below.refl _ _)) (fun hHeld => ?_)
  generalize hwd : w1.drew = wd at  hHeld ⊢
  clear hwd
  refine held_take (i := 0) (v := (.pointer (some ⟨b, 0, none⟩))) rfl (by kernel_rfl) (by kernel_rfl) (by kernel_rfl) (fun _ _ _ h => h) (Or.inl ⟨by rfl, fun w' _ => by kernel_rfl⟩) hHeld ?_
  go_frame
  refine held_take (i := 1) (v := (.pointer (some ⟨b, 0, none⟩))) rfl (by kernel_rfl) (by kernel_rfl) (by kernel_rfl) (fun _ _ _ h => h) (Or.inl ⟨by rfl, fun w' _ => by kernel_rfl⟩) hHeld ?_
  go_frame
  refine held_take (i := 2) (v := (.pointer (some ⟨b, 2, none⟩))) rfl (by kernel_rfl) (by kernel_rfl) (by kernel_rfl) (fun _ _ _ h => h) (Or.inl ⟨by rfl, fun w' _ => by kernel_rfl⟩) hHeld ?_
  go_frame
  refine held_take (i := 3) (v := (.map (some sb))) rfl (by kernel_rfl) (by kernel_rfl) (by kernel_rfl) (fun _ _ _ h => h) (yieldsIf_load_one (by rfl) 63 (.tmp 14) rfl b (2) rfl _ _ (fun w' hw' => (HV1.out.below hw').scell) Tryd.underlying63 rfl) hHeld ?_
  go_frame
  refine held_take (i := 4) (v := (.agg cp.toArray)) rfl (by kernel_rfl) (by kernel_rfl) (by kernel_rfl) (fun _ _ _ h => h) (yieldsIf_load_row (by rfl) 28 (.tmp 3) rfl g3 rfl 28 cp.toArray (0, 0) _ (fun w' hw' => row_below F3.out hw') Tryd.underlying28 rfl (by rw [PSZ.out]; kernel_rfl)) hHeld ?_
  go_frame
  refine held_take (i := 5) (v := (.tuple #[.agg ci.toArray, .bool bg])) rfl (by kernel_rfl) (by kernel_rfl) (by kernel_rfl) (fun _ _ _ h => h) (yieldsIf_lookup (by rfl) 63 (.tmp 15) (.tmp 16) true rfl _ _ _ rfl rfl (fun w' hw' => LKS.out w' (B0.out.trans (hw'.mono B0.out.size)))) hHeld ?_
  go_frame
  refine held_take (i := 6) (v := (.tuple #[.agg ci.toArray, .bool bg])) rfl (by kernel_rfl) (by kernel_rfl) (by kernel_rfl) (fun _ _ _ h => h) (Or.inl ⟨by rfl, fun w' _ => by kernel_rfl⟩) hHeld ?_
  go_frame
  refine held_take (i := 7) (v := (.agg ci.toArray)) rfl (by kernel_rfl) (by kernel_rfl) (by kernel_rfl) (fun _ _ _ h => h) (Or.inl ⟨by rfl, fun w' _ => by kernel_rfl⟩) hHeld ?_
  go_frame
  refine held_take (i := 8) (v := (.bool bg)) rfl (by kernel_rfl) (by kernel_rfl) (by kernel_rfl) (fun _ _ _ h => h) (Or.inl ⟨by rfl, fun w' _ => by kernel_rfl⟩) hHeld ?_
  go_frame
  refine wpAnyH_ready (rs := [9]) (by kernel_rfl) (by simp) (held_cons rfl (fun K hK => ?_) AllReadyH.nil)
  go_simp
  have nf := heap_alloc_new wd (.cells (List.replicate 32 (bV 0)).toArray 25 (0, 0))
  have bb := (Below.refl wd.heap.size wd).alloc (Nat.le_refl _) (.cells (List.replicate 32 (bV 0)).toArray 25 (0, 0))
  obtain ⟨gv1, hgv1⟩ : ∃ g, g = wd.heap.size := ⟨_, rfl⟩
  have GF6 : Hid (w1.heap.size ≤ gv1) := by show _ ≤ _; rw [hgv1]; exact hHeld.size
  generalize hqv1 : World.alloc _ _ = v1
  have ev1 : wd.alloc (.cells (List.replicate 32 (bV 0)).toArray 25 (0, 0)) = v1 := hqv1
  rw [ev1] at nf bb
  rw [← hgv1] at nf ⊢
  have F6 := Lib.hid nf
  have hv1 := hHeld.trans (bb.mono hHeld.size)
  clear nf bb hqv1 ev1 hgv1 hHeld
  refine hK.out _ _ hv1 (fun hHeld => ?_)
  clear hK K hv1
  refine wpAnyH_ready (rs := [10]) (by kernel_rfl) (by simp) (held_cons rfl (fun K hK => ?_) AllReadyH.nil)
  rw [if_pos (by rfl)]
  refine wp_store_whole 25 (.tmp 6) (.tmp 18) rfl gv1 (List.replicate 32 (bV 0)) ci 25 rfl rfl (by rw [LIG.out]; rfl) F6.out (by rw [LIG.out]; kernel_rfl) (AIG.out) ?_
  intro v2 q1 q2
  have F6 := Lib.hid q1
  have hv2 := hHeld.grown q2 hHeld.size (fun k hk => by cases hk; exact GF6.out)
  clear q1 q2 hHeld
  go_frame
  refine hK.out _ _ hv2 (fun hHeld => ?_)
  clear hK K hv2
  refine held_take (i := 11) (v := (.bool bg)) rfl (by kernel_rfl) (by kernel_rfl) (by kernel_rfl) (fun _ _ _ h => h) (Or.inl ⟨by rfl, fun w' _ => by kernel_rfl⟩) hHeld ?_
  go_frame
  refine wpAnyH_done (by kernel_rfl) ?_ _
  obtain ⟨v9, hv9⟩ : ∃ v9, v9 = v2 := ⟨_, rfl⟩
  rw [← hv9] at F6 hHeld ⊢
  clear hv9
  have F4 := Lib.hid (row_below F4.out hHeld)
  have F3 := Lib.hid (row_below F3.out hHeld)
  have HV1 := Lib.hid (HV1.out.below hHeld)
  have B1 := Lib.hid (B0.out.trans (hHeld.mono B0.out.size))
  clear hHeld F6 B0 LKS
  cases bg with
  | true =>
    go_wp2_with ((with_reducible show wpList _ _ _ _ _ _); first | (refine wpList_buildTo rfl 37 _ rfl _ rfl (mnL mnZ).toArray (by kernel_rfl) ?_; go_frame) | (refine wpList_store_row rfl 37 (.tmp 4) (.tmp 21) rfl (g3 + 1) (mnL mnZ).toArray rfl rfl 37 _ F4.out (by rw [ZSZ.out]; kernel_rfl) rfl ZONE.out ?_; go_frame))
    refine bodyPost_ret (results_row_tmp rfl _ _ (g3 + 1) 37 (mnL mnZ).toArray (0, 0) _ rfl (setRow_heap _ _ _ _ _ _ F4.out) Tryd.underlying37 rfl (by kernel_rfl)) rfl ?_
    rw [V1.out (by first | rfl | trivial)]
    exact ⟨rfl, below_setRow B1.out (by have := G3.out; omega) _⟩
  | false =>
    go_upto_region 4 with fail
    refine wp_region_held_drew (S := (fun w' => Below v9.heap.size v9 w')) (by kernel_rfl) (Below.drew (Below.refl _ _)) (fun hHeld => ?_)
    generalize hwd : v9.drew = wd at  hHeld ⊢
    clear hwd
    refine held_take (i := 0) (v := (.pointer (some ⟨b, 0, none⟩))) rfl (by kernel_rfl) (by kernel_rfl) (by kernel_rfl) (fun _ _ _ h => h) (Or.inl ⟨by rfl, fun w' _ => by kernel_rfl⟩) hHeld ?_
    go_frame
    refine held_take (i := 1) (v := (.pointer (some ⟨b, 0, none⟩))) rfl (by kernel_rfl) (by kernel_rfl) (by kernel_rfl) (fun _ _ _ h => h) (Or.inl ⟨by rfl, fun w' _ => by kernel_rfl⟩) hHeld ?_
    go_frame
    refine held_take (i := 2) (v := (.pointer (some ⟨b, 0, none⟩))) rfl (by kernel_rfl) (by kernel_rfl) (by kernel_rfl) (fun _ _ _ h => h) (Or.inl ⟨by rfl, fun w' _ => by kernel_rfl⟩) hHeld ?_
    go_frame
    refine held_take (i := 3) (v := (.pointer (some ⟨a, 0, none⟩))) rfl (by kernel_rfl) (by kernel_rfl) (by kernel_rfl) (fun _ _ _ h => h) (yieldsIf_load_one (by rfl) 29 (.tmp 25) rfl b (0) rfl _ _ (fun w' hw' => (HV1.out.below hw').ptr) Tryd.underlying29 rfl) hHeld ?_
    go_frame
    refine held_take (i := 4) (v := (.agg cp.toArray)) rfl (by kernel_rfl) (by kernel_rfl) (by kernel_rfl) (fun _ _ _ h => h) (yieldsIf_load_row (by rfl) 28 (.tmp 3) rfl g3 rfl 28 cp.toArray (0, 0) _ (fun w' hw' => row_below F3.out hw') Tryd.underlying28 rfl (by rw [PSZ.out]; kernel_rfl)) hHeld ?_
    go_frame
    refine wpAnyH_ready (rs := [5, 9]) (by kernel_rfl) (by simp) (held_cons rfl (fun K hK => ?_) (held_cons rfl (fun K hK => ?_) AllReadyH.nil))
    · skip
      go_simp
      refine (SG.out _ (B1.out.trans (hHeld.mono B1.out.size))).mono ?_
      rintro e v1 ⟨rfl, bb⟩
      have hv1 := hHeld.trans (bb.mono hHeld.size)
      clear bb hHeld
      go_wp2_with fail
      refine hK.out _ _ hv1 (fun hHeld => ?_)
      clear hK K hv1
      refine held_take (i := 6) (v := (.tuple #[.agg cm.toArray, .bool bc])) rfl (by kernel_rfl) (by kernel_rfl) (by kernel_rfl) (fun _ _ _ h => h) (Or.inl ⟨by rfl, fun w' _ => by kernel_rfl⟩) hHeld ?_
      go_frame
      refine held_take (i := 7) (v := (.agg cm.toArray)) rfl (by kernel_rfl) (by kernel_rfl) (by kernel_rfl) (fun _ _ _ h => h) (Or.inl ⟨by rfl, fun w' _ => by kernel_rfl⟩) hHeld ?_
      go_frame
      refine held_take (i := 8) (v := (.bool bc)) rfl (by kernel_rfl) (by kernel_rfl) (by kernel_rfl) (fun _ _ _ h => h) (Or.inl ⟨by rfl, fun w' _ => by kernel_rfl⟩) hHeld ?_
      go_frame
      refine wpAnyH_ready (rs := [9]) (by kernel_rfl) (by simp) (held_cons rfl (fun K hK => ?_) AllReadyH.nil)
      go_simp
      have nf := heap_alloc_new v1 (.cells (mnL mnZ).toArray 37 (0, 0))
      have bb := (Below.refl v1.heap.size v1).alloc (Nat.le_refl _) (.cells (mnL mnZ).toArray 37 (0, 0))
      obtain ⟨gv2, hgv2⟩ : ∃ g, g = v1.heap.size := ⟨_, rfl⟩
      have GF8 : Hid (v9.heap.size ≤ gv2) := by show _ ≤ _; rw [hgv2]; exact hHeld.size
      generalize hqv2 : World.alloc _ _ = v2
      have ev2 : v1.alloc (.cells (mnL mnZ).toArray 37 (0, 0)) = v2 := hqv2
      rw [ev2] at nf bb
      rw [← hgv2] at nf ⊢
      have F8 := Lib.hid nf
      have hv2 := hHeld.trans (bb.mono hHeld.size)
      clear nf bb hqv2 ev2 hgv2 hHeld
      refine hK.out _ _ hv2 (fun hHeld => ?_)
      clear hK K hv2
      refine wpAnyH_ready (rs := [10]) (by kernel_rfl) (by simp) (held_cons rfl (fun K hK => ?_) AllReadyH.nil)
      rw [if_pos (by rfl)]
      refine wp_store_whole 37 (.tmp 8) (.tmp 29) rfl gv2 (mnL mnZ) cm 37 rfl rfl (by rw [mnL_length mnZ_ok, CLN.out]) F8.out (by rw [CLN.out]; kernel_rfl) (CONE.out) ?_
      intro v3 q1 q2
      have F8 := Lib.hid q1
      have hv3 := hHeld.grown q2 hHeld.size (fun k hk => by cases hk; exact GF8.out)
      clear q1 q2 hHeld
      go_frame
      refine hK.out _ _ hv3 (fun hHeld => ?_)
      clear hK K hv3
      refine held_take (i := 11) (v := (.bool bc)) rfl (by kernel_rfl) (by kernel_rfl) (by kernel_rfl) (fun _ _ _ h => h) (Or.inl ⟨by rfl, fun w' _ => by kernel_rfl⟩) hHeld ?_
      go_frame
      refine wpAnyH_done (by kernel_rfl) ?_ _
      obtain ⟨v8, hv8⟩ : ∃ v8, v8 = v3 := ⟨_, rfl⟩
      rw [← hv8] at F8 hHeld ⊢
      clear hv8
      have F4 := Lib.hid (row_below F4.out hHeld)
      have F3 := Lib.hid (row_below F3.out hHeld)
      have HV1 := Lib.hid (HV1.out.below hHeld)
      have B1 := Lib.hid (B1.out.trans (hHeld.mono B1.out.size))
      clear hHeld SG
      cases bc with
      | true =>
        go_wp2_with ((with_reducible show wpList _ _ _ _ _ _); first | (refine wpList_load_row rfl 37 (.tmp 8) rfl gv2 rfl 37 cm.toArray (0, 0) _ F8.out Tryd.underlying37 rfl (by rw [CSZ.out]; kernel_rfl) ?_; go_frame) | (refine wpList_store_row rfl 37 (.tmp 4) (.tmp 32) rfl (g3 + 1) cm.toArray rfl rfl 37 _ F4.out (by rw [CSZ.out]; kernel_rfl) (by rw [CSZ.out]; rfl) CONE.out ?_; go_frame))
        refine bodyPost_ret (results_row_tmp rfl _ _ (g3 + 1) 37 cm.toArray (0, 0) _ rfl (setRow_heap _ _ _ _ _ _ F4.out) Tryd.underlying37 rfl (by rw [CSZ.out]; kernel_rfl)) rfl ?_
        rw [V2.out (by first | rfl | trivial) (by first | rfl | trivial), CS.out (by first | rfl | trivial), CM.out]
        exact ⟨rfl, below_setRow B1.out (by have := G3.out; omega) _⟩
      | false =>
        go_upto_region 7 with fail
        refine wp_region_held_drew (S := (fun w' => Below v8.heap.size v8 w')) (by kernel_rfl) (Below.drew (Below.refl _ _)) (fun hHeld => ?_)
        generalize hwd : v8.drew = wd at  hHeld ⊢
        clear hwd
        refine held_take (i := 0) (v := (.pointer (some ⟨b, 0, none⟩))) rfl (by kernel_rfl) (by kernel_rfl) (by kernel_rfl) (fun _ _ _ h => h) (Or.inl ⟨by rfl, fun w' _ => by kernel_rfl⟩) hHeld ?_
        go_frame
        refine held_take (i := 1) (v := (.pointer (some ⟨b, 0, none⟩))) rfl (by kernel_rfl) (by kernel_rfl) (by kernel_rfl) (fun _ _ _ h => h) (Or.inl ⟨by rfl, fun w' _ => by kernel_rfl⟩) hHeld ?_
        go_frame
        refine held_take (i := 2) (v := (.pointer (some ⟨b, 1, none⟩))) rfl (by kernel_rfl) (by kernel_rfl) (by kernel_rfl) (fun _ _ _ h => h) (Or.inl ⟨by rfl, fun w' _ => by kernel_rfl⟩) hHeld ?_
        go_frame
        refine held_take (i := 3) (v := (.map (some mb))) rfl (by kernel_rfl) (by kernel_rfl) (by kernel_rfl) (fun _ _ _ h => h) (yieldsIf_load_one (by rfl) 62 (.tmp 35) rfl b (1) rfl _ _ (fun w' hw' => (HV1.out.below hw').mcell) Tryd.underlying62 rfl) hHeld ?_
        go_frame
        refine held_take (i := 4) (v := (.pointer (some ⟨g3, 0, none⟩))) rfl (by kernel_rfl) (by kernel_rfl) (by kernel_rfl) (fun _ _ _ h => h) (Or.inl ⟨by rfl, fun w' _ => by kernel_rfl⟩) hHeld ?_
        go_frame
        refine held_take (i := 5) (v := (.agg ch.toArray)) rfl (by kernel_rfl) (by kernel_rfl) (by kernel_rfl) (fun _ _ _ h => h) (Sha.yieldsIf_load_mid (by rfl) 25 (.tmp 37) rfl g3 (0) rfl ch _ (fun w' hw' => (KN.out w' g3 (row_below F3.out hw')).1) Tryd.underlying25 rfl (by rw [LH.out]; kernel_rfl)) hHeld ?_
        go_frame
        refine held_take (i := 6) (v := (.slice spo no capo)) rfl (by kernel_rfl) (by kernel_rfl) (by kernel_rfl) (fun _ _ _ h => h) (yieldsIf_lookup (by rfl) 62 (.tmp 36) (.tmp 38) false rfl _ _ _ rfl rfl (fun w' hw' => LKM.out w' (B1.out.trans (hw'.mono B1.out.size)))) hHeld ?_
        go_frame
        refine held_take (i := 7) (v := (.slice spo no capo)) rfl (by kernel_rfl) (by kernel_rfl) (by kernel_rfl) (fun _ _ _ h => h) (Or.inl ⟨by rfl, fun w' _ => by kernel_rfl⟩) hHeld ?_
        go_frame
        refine wpAnyH_done (by kernel_rfl) ?_ _
        obtain ⟨v7, hv7⟩ : ∃ v7, v7 = wd := ⟨_, rfl⟩
        rw [← hv7] at  hHeld ⊢
        clear hv7
        have F4 := Lib.hid (row_below F4.out hHeld)
        have F3 := Lib.hid (row_below F3.out hHeld)
        have B1 := Lib.hid (B1.out.trans (hHeld.mono B1.out.size))
        have LOOK := Lib.hid (LOOK.out v7 B1.out)
        clear hHeld LKM F8 HV1
        have c32 := (KN.out _ _ F3.out).2
        have pw : IntKind.u64.wrap (pn : Int) = (pn : Int) := u64_stays (by have := PN.out; omega)
        have nw : IntKind.u64.wrap (no : Int) = (no : Int) := u64_stays (by have := LOK.out.2; omega)
        by_cases hlt : no ≤ pn
        · have hge : ((no : Int) ≤ (pn : Int)) := by omega
          go_wp2_with ((with_reducible show wpList _ _ _ _ _ _); first | (refine wpList_buildTo rfl 37 _ rfl _ rfl (mnL mnZ).toArray (by kernel_rfl) ?_; go_frame) | (refine wpList_store_row rfl 37 (.tmp 4) (.tmp 47) rfl (g3 + 1) (mnL mnZ).toArray rfl rfl 37 _ F4.out (by rw [ZSZ.out]; kernel_rfl) rfl ZONE.out ?_; go_frame))
          refine bodyPost_ret (results_row_tmp rfl _ _ (g3 + 1) 37 (mnL mnZ).toArray (0, 0) _ rfl (setRow_heap _ _ _ _ _ _ F4.out) Tryd.underlying37 rfl (by kernel_rfl)) rfl ?_
          rw [V3.out (by first | rfl | trivial) (by first | rfl | trivial), List.getElem?_eq_none (by rw [← NO.out]; omega)]
          exact ⟨rfl, below_setRow B1.out (by have := G3.out; omega) _⟩
      
        · have hge : ¬ ((no : Int) ≤ (pn : Int)) := by omega
          obtain ⟨bo, oo, rfl, hg⟩ := LOOK.out.get (by omega)
          obtain ⟨x, hx⟩ : ∃ x, os[pn]? = some x := ⟨_, List.getElem?_eq_getElem (by rw [← NO.out]; omega)⟩
          have ox := LOK.out.1 x (List.mem_of_getElem? hx)
          have RX := Lib.hid (hg pn (mnL x) (by rw [List.getElem?_map, hx]; rfl))
          have LX : Hid ((mnL x).length = 35) := mnL_length ox
          have ZX : Hid ((mnL x).toArray.size = 35) := mnL_size ox
          have AX : Hid ((mnL x).toArray.all (·.oneCell') = true) := mnL_all x
          have V4 : Hid (G = some x) := by show _ = _; rw [V3.out (by first | rfl | trivial) (by first | rfl | trivial), hx]
          obtain ⟨cx, hcx⟩ : ∃ cx, cx = mnL x := ⟨_, rfl⟩
          rw [← hcx] at RX LX ZX AX
          have CX := Lib.hid hcx
          clear hx hg hcx ox
          have p0 : 0 ≤ (pn : Int) := by omega
          have q0 : (pn : Int) < (no : Int) := by omega
          go_wp2_with ((with_reducible show wpList _ _ _ _ _ _); first | (refine wpList_load_mid rfl 37 (.tmp 51) rfl bo (oo + pn * 35) rfl cx _ RX.out Tryd.underlying37 rfl (by rw [LX.out]; kernel_rfl) ?_; go_frame) | (refine wpList_store_row rfl 37 (.tmp 4) (.tmp 52) rfl (g3 + 1) cx.toArray rfl rfl 37 _ F4.out (by rw [ZX.out]; kernel_rfl) (by rw [ZX.out]; rfl) AX.out ?_; go_frame))
          refine bodyPost_ret (results_row_tmp rfl _ _ (g3 + 1) 37 cx.toArray (0, 0) _ rfl (setRow_heap _ _ _ _ _ _ F4.out) Tryd.underlying37 rfl (by rw [ZX.out]; kernel_rfl)) rfl ?_
          rw [V4.out, CX.out]
          exact ⟨rfl, below_setRow B1.out (by have := G3.out; omega) _⟩
    · skip
      go_simp
      have nf := heap_alloc_new wd (.cells (mnL mnZ).toArray 37 (0, 0))
      have bb := (Below.refl wd.heap.size wd).alloc (Nat.le_refl _) (.cells (mnL mnZ).toArray 37 (0, 0))
      obtain ⟨gv4, hgv4⟩ : ∃ g, g = wd.heap.size := ⟨_, rfl⟩
      have GF8 : Hid (v9.heap.size ≤ gv4) := by show _ ≤ _; rw [hgv4]; exact hHeld.size
      generalize hqv4 : World.alloc _ _ = v4
      have ev4 : wd.alloc (.cells (mnL mnZ).toArray 37 (0, 0)) = v4 := hqv4
      rw [ev4] at nf bb
      rw [← hgv4] at nf ⊢
      have F8 := Lib.hid nf
      have hv4 := hHeld.trans (bb.mono hHeld.size)
      clear nf bb hqv4 ev4 hgv4 hHeld
      refine hK.out _ _ hv4 (fun hHeld => ?_)
      clear hK K hv4
      refine wpAnyH_ready (rs := [5]) (by kernel_rfl) (by simp) (held_cons rfl (fun K hK => ?_) AllReadyH.nil)
      go_simp
      refine (SG.out _ (B1.out.trans (hHeld.mono B1.out.size))).mono ?_
      rintro e v5 ⟨rfl, bb⟩
      have F8 := Lib.hid (row_below F8.out bb)
      have hv5 := hHeld.trans (bb.mono hHeld.size)
      clear bb hHeld
      go_wp2_with fail
      refine hK.out _ _ hv5 (fun hHeld => ?_)
      clear hK K hv5
      refine held_take (i := 6) (v := (.tuple #[.agg cm.toArray, .bool bc])) rfl (by kernel_rfl) (by kernel_rfl) (by kernel_rfl) (fun _ _ _ h => h) (Or.inl ⟨by rfl, fun w' _ => by kernel_rfl⟩) hHeld ?_
      go_frame
      refine held_take (i := 7) (v := (.agg cm.toArray)) rfl (by kernel_rfl) (by kernel_rfl) (by kernel_rfl) (fun _ _ _ h => h) (Or.inl ⟨by rfl, fun w' _ => by kernel_rfl⟩) hHeld ?_
      go_frame
      refine held_take (i := 8) (v := (.bool bc)) rfl (by kernel_rfl) (by kernel_rfl) (by kernel_rfl) (fun _ _ _ h => h) (Or.inl ⟨by rfl, fun w' _ => by kernel_rfl⟩) hHeld ?_
      go_frame
      refine wpAnyH_ready (rs := [10]) (by kernel_rfl) (by simp) (held_cons rfl (fun K hK => ?_) AllReadyH.nil)
      rw [if_pos (by rfl)]
      refine wp_store_whole 37 (.tmp 8) (.tmp 29) rfl gv4 (mnL mnZ) cm 37 rfl rfl (by rw [mnL_length mnZ_ok, CLN.out]) F8.out (by rw [CLN.out]; kernel_rfl) (CONE.out) ?_
      intro v6 q1 q2
      have F8 := Lib.hid q1
      have hv6 := hHeld.grown q2 hHeld.size (fun k hk => by cases hk; exact GF8.out)
      clear q1 q2 hHeld
      go_frame
      refine hK.out _ _ hv6 (fun hHeld => ?_)
      clear hK K hv6
      refine held_take (i := 11) (v := (.bool bc)) rfl (by kernel_rfl) (by kernel_rfl) (by kernel_rfl) (fun _ _ _ h => h) (Or.inl ⟨by rfl, fun w' _ => by kernel_rfl⟩) hHeld ?_
      go_frame
      refine wpAnyH_done (by kernel_rfl) ?_ _
      obtain ⟨v8, hv8⟩ : ∃ v8, v8 = v6 := ⟨_, rfl⟩
      rw [← hv8] at F8 hHeld ⊢
      clear hv8
      have F4 := Lib.hid (row_below F4.out hHeld)
      have F3 := Lib.hid (row_below F3.out hHeld)
      have HV1 := Lib.hid (HV1.out.below hHeld)
      have B1 := Lib.hid (B1.out.trans (hHeld.mono B1.out.size))
      clear hHeld SG
      cases bc with
      | true =>
        go_wp2_with ((with_reducible show wpList _ _ _ _ _ _); first | (refine wpList_load_row rfl 37 (.tmp 8) rfl gv4 rfl 37 cm.toArray (0, 0) _ F8.out Tryd.underlying37 rfl (by rw [CSZ.out]; kernel_rfl) ?_; go_frame) | (refine wpList_store_row rfl 37 (.tmp 4) (.tmp 32) rfl (g3 + 1) cm.toArray rfl rfl 37 _ F4.out (by rw [CSZ.out]; kernel_rfl) (by rw [CSZ.out]; rfl) CONE.out ?_; go_frame))
        refine bodyPost_ret (results_row_tmp rfl _ _ (g3 + 1) 37 cm.toArray (0, 0) _ rfl (setRow_heap _ _ _ _ _ _ F4.out) Tryd.underlying37 rfl (by rw [CSZ.out]; kernel_rfl)) rfl ?_
        rw [V2.out (by first | rfl | trivial) (by first | rfl | trivial), CS.out (by first | rfl | trivial), CM.out]
        exact ⟨rfl, below_setRow B1.out (by have := G3.out; omega) _⟩
      | false =>
        go_upto_region 7 with fail
        refine wp_region_held_drew (S := (fun w' => Below v8.heap.size v8 w')) (by kernel_rfl) (Below.drew (Below.refl _ _)) (fun hHeld => ?_)
        generalize hwd : v8.drew = wd at  hHeld ⊢
        clear hwd
        refine held_take (i := 0) (v := (.pointer (some ⟨b, 0, none⟩))) rfl (by kernel_rfl) (by kernel_rfl) (by kernel_rfl) (fun _ _ _ h => h) (Or.inl ⟨by rfl, fun w' _ => by kernel_rfl⟩) hHeld ?_
        go_frame
        refine held_take (i := 1) (v := (.pointer (some ⟨b, 0, none⟩))) rfl (by kernel_rfl) (by kernel_rfl) (by kernel_rfl) (fun _ _ _ h => h) (Or.inl ⟨by rfl, fun w' _ => by kernel_rfl⟩) hHeld ?_
        go_frame
        refine held_take (i := 2) (v := (.pointer (some ⟨b, 1, none⟩))) rfl (by kernel_rfl) (by kernel_rfl) (by kernel_rfl) (fun _ _ _ h => h) (Or.inl ⟨by rfl, fun w' _ => by kernel_rfl⟩) hHeld ?_
        go_frame
        refine held_take (i := 3) (v := (.map (some mb))) rfl (by kernel_rfl) (by kernel_rfl) (by kernel_rfl) (fun _ _ _ h => h) (yieldsIf_load_one (by rfl) 62 (.tmp 35) rfl b (1) rfl _ _ (fun w' hw' => (HV1.out.below hw').mcell) Tryd.underlying62 rfl) hHeld ?_
        go_frame
        refine held_take (i := 4) (v := (.pointer (some ⟨g3, 0, none⟩))) rfl (by kernel_rfl) (by kernel_rfl) (by kernel_rfl) (fun _ _ _ h => h) (Or.inl ⟨by rfl, fun w' _ => by kernel_rfl⟩) hHeld ?_
        go_frame
        refine held_take (i := 5) (v := (.agg ch.toArray)) rfl (by kernel_rfl) (by kernel_rfl) (by kernel_rfl) (fun _ _ _ h => h) (Sha.yieldsIf_load_mid (by rfl) 25 (.tmp 37) rfl g3 (0) rfl ch _ (fun w' hw' => (KN.out w' g3 (row_below F3.out hw')).1) Tryd.underlying25 rfl (by rw [LH.out]; kernel_rfl)) hHeld ?_
        go_frame
        refine held_take (i := 6) (v := (.slice spo no capo)) rfl (by kernel_rfl) (by kernel_rfl) (by kernel_rfl) (fun _ _ _ h => h) (yieldsIf_lookup (by rfl) 62 (.tmp 36) (.tmp 38) false rfl _ _ _ rfl rfl (fun w' hw' => LKM.out w' (B1.out.trans (hw'.mono B1.out.size)))) hHeld ?_
        go_frame
        refine held_take (i := 7) (v := (.slice spo no capo)) rfl (by kernel_rfl) (by kernel_rfl) (by kernel_rfl) (fun _ _ _ h => h) (Or.inl ⟨by rfl, fun w' _ => by kernel_rfl⟩) hHeld ?_
        go_frame
        refine wpAnyH_done (by kernel_rfl) ?_ _
        obtain ⟨v7, hv7⟩ : ∃ v7, v7 = wd := ⟨_, rfl⟩
        rw [← hv7] at  hHeld ⊢
        clear hv7
        have F4 := Lib.hid (row_below F4.out hHeld)
        have F3 := Lib.hid (row_below F3.out hHeld)
        have B1 := Lib.hid (B1.out.trans (hHeld.mono B1.out.size))
        have LOOK := Lib.hid (LOOK.out v7 B1.out)
        clear hHeld LKM F8 HV1
        have c32 := (KN.out _ _ F3.out).2
        have pw : IntKind.u64.wrap (pn : Int) = (pn : Int) := u64_stays (by have := PN.out; omega)
        have nw : IntKind.u64.wrap (no : Int) = (no : Int) := u64_stays (by have := LOK.out.2; omega)
        by_cases hlt : no ≤ pn
        · have hge : ((no : Int) ≤ (pn : Int)) := by omega
          go_wp2_with ((with_reducible show wpList _ _ _ _ _ _); first | (refine wpList_buildTo rfl 37 _ rfl _ rfl (mnL mnZ).toArray (by kernel_rfl) ?_; go_frame) | (refine wpList_store_row rfl 37 (.tmp 4) (.tmp 47) rfl (g3 + 1) (mnL mnZ).toArray rfl rfl 37 _ F4.out (by rw [ZSZ.out]; kernel_rfl) rfl ZONE.out ?_; go_frame))
          refine bodyPost_ret (results_row_tmp rfl _ _ (g3 + 1) 37 (mnL mnZ).toArray (0, 0) _ rfl (setRow_heap _ _ _ _ _ _ F4.out) Tryd.underlying37 rfl (by kernel_rfl)) rfl ?_
          rw [V3.out (by first | rfl | trivial) (by first | rfl | trivial), List.getElem?_eq_none (by rw [← NO.out]; omega)]
          exact ⟨rfl, below_setRow B1.out (by have := G3.out; omega) _⟩
      
        · have hge : ¬ ((no : Int) ≤ (pn : Int)) := by omega
          obtain ⟨bo, oo, rfl, hg⟩ := LOOK.out.get (by omega)
          obtain ⟨x, hx⟩ : ∃ x, os[pn]? = some x := ⟨_, List.getElem?_eq_getElem (by rw [← NO.out]; omega)⟩
          have ox := LOK.out.1 x (List.mem_of_getElem? hx)
          have RX := Lib.hid (hg pn (mnL x) (by rw [List.getElem?_map, hx]; rfl))
          have LX : Hid ((mnL x).length = 35) := mnL_length ox
          have ZX : Hid ((mnL x).toArray.size = 35) := mnL_size ox
          have AX : Hid ((mnL x).toArray.all (·.oneCell') = true) := mnL_all x
          have V4 : Hid (G = some x) := by show _ = _; rw [V3.out (by first | rfl | trivial) (by first | rfl | trivial), hx]
          obtain ⟨cx, hcx⟩ : ∃ cx, cx = mnL x := ⟨_, rfl⟩
          rw [← hcx] at RX LX ZX AX
          have CX := Lib.hid hcx
          clear hx hg hcx ox
          have p0 : 0 ≤ (pn : Int) := by omega
          have q0 : (pn : Int) < (no : Int) := by omega
          go_wp2_with ((with_reducible show wpList _ _ _ _ _ _); first | (refine wpList_load_mid rfl 37 (.tmp 51) rfl bo (oo + pn * 35) rfl cx _ RX.out Tryd.underlying37 rfl (by rw [LX.out]; kernel_rfl) ?_; go_frame) | (refine wpList_store_row rfl 37 (.tmp 4) (.tmp 52) rfl (g3 + 1) cx.toArray rfl rfl 37 _ F4.out (by rw [ZX.out]; kernel_rfl) (by rw [ZX.out]; rfl) AX.out ?_; go_frame))
          refine bodyPost_ret (results_row_tmp rfl _ _ (g3 + 1) 37 cx.toArray (0, 0) _ rfl (setRow_heap _ _ _ _ _ _ F4.out) Tryd.underlying37 rfl (by rw [ZX.out]; kernel_rfl)) rfl ?_
          rw [V4.out, CX.out]
          exact ⟨rfl, below_setRow B1.out (by have := G3.out; omega) _⟩
end Go.Proofs.YtgcoegbamoehfaaDoor.Sha

/-
  What package tx is shown to answer of a transaction's digest, as a hypothesis for the statements' walks. No conditions.
-/
namespace Go.Proofs.YtgcoegbamoehfaaDoor.Sha
open Go Go.RowKit
def IdC : Prop := ∀ (t : TTx) (v : Value) (w : World), KTab w → TxAt w v t → TxSmall t →
  Calls Tryd.prog 18 #[v] w fun e w' => e = .returned (.agg ((sha (sha (txB t))).map bV).toArray) ∧ Below w.heap.size w w'
end Go.Proofs.YtgcoegbamoehfaaDoor.Sha

/-
  What package tx is shown to answer of bytes as a transaction, as a hypothesis; what is read is small. No conditions.
-/
namespace Go.Proofs.YtgcoegbamoehfaaDoor.Sha
open Go Go.RowKit
/-- What bytes are as a transaction. -/
structure ReadIs (bs : List UInt8) (t : TTx) (c : Nat) : Prop where
  eq : readTx bs = (t, c)
theorem ReadIs.back {bs : List UInt8} {t : TTx} {c : Nat} (h : ReadIs bs t c) (hc : c = 0) : bs = txB t ∧ TxRead t := by
  have h2 := read_back (b := bs) ((congrArg Prod.snd h.eq).trans hc)
  rw [h.eq] at h2
  exact h2
theorem TxRead.small {t : TTx} (h : TxRead t) : TxSmall t :=
  ⟨⟨h.1, h.2.1, h.2.2.1, fun x hx => Nat.le_trans (h.2.2.2.1 x hx) (by omega), Nat.le_trans h.2.2.2.2.1 (by omega), Nat.le_trans h.2.2.2.2.2 (by omega)⟩, Nat.le_trans h.2.2.2.2.1 (by omega), Nat.le_trans h.2.2.2.2.2 (by omega), fun x hx => Nat.le_trans (h.2.2.2.1 x hx) (by omega)⟩
theorem tx_one {w : World} {t : TTx} {iv ov : Value} (h1 : InsAt w iv t.ins) (h2 : OutsAt w ov t.outs) : (txL t iv ov).toArray.all (·.oneCell') = true := by
  obtain ⟨_, _, rfl, _⟩ := h1
  obtain ⟨_, _, rfl, _⟩ := h2
  rw [Array.all_eq_true_iff_forall_mem]
  intro x hx
  simp [txL] at hx
  rcases hx with rfl | rfl | rfl | rfl <;> rfl
theorem box1 (w : World) (x : List Value) (T : TypeId) : Below w.heap.size w (w.alloc (.cells x.toArray T)) ∧ (w.alloc (.cells x.toArray T)).heap[w.heap.size]? = some (.cells x.toArray T (0, 0)) :=
  ⟨(Below.refl _ _).alloc (Nat.le_refl _) _, heap_alloc_new _ _⟩
theorem read_pair (bs : List UInt8) : ∃ u c, ReadIs bs u c := by
  obtain ⟨u, c, h⟩ : ∃ u c, readTx bs = (u, c) := by
    generalize readTx bs = p
    exact ⟨p.1, p.2, rfl⟩
  exact ⟨u, c, ⟨h⟩⟩
theorem txB_ten (t : TTx) : 10 ≤ (txB t).length := by
  have h1 := lenN_bd t.ins.length
  have h2 := lenN_bd t.outs.length
  simp only [txB, List.length_append, leB_length, putL_length]
  omega
/-- A transaction's zero cells. -/
def txZ : Array Value := #[.int .u32 0, .slice none 0 0, .slice none 0 0, .int .u32 0]
theorem fine_check {t : TTx} (h : checkC t = 0) : checkN t = 0 := by
  unfold checkC checkN at *
  split at h
  · omega
  rename_i h1
  rw [if_neg h1]
  split at h
  · omega
  rename_i h2
  rw [if_neg h2]
  split at h
  · omega
  rename_i h3
  rw [if_neg h3]
  split at h
  · omega
  rename_i h4
  rw [if_neg h4]
  split at h
  · omega
  rename_i h5
  rw [if_neg h5]
  split at h
  · rename_i h6
    rw [if_pos h6]
    split at h
    · omega
    · rename_i h7
      rw [if_neg h7]
  · rename_i h6
    rw [if_neg h6]
    split at h
    · omega
    · rename_i h7
      rw [if_neg h7]
end Go.Proofs.YtgcoegbamoehfaaDoor.Sha
