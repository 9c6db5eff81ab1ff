/-
  Texts of this proof joined into one file: CtUnder, BtMath, RwSet, BtAt. What each holds, and under which conditions, its own first sentence tells.
-/
import Derived.Test.YtdhcjaflbfpalaaGreatDoorMh11
import Derived.Test.YtdhcjaflbfpalaaGreatDoorMh12
import Derived.Test.YtdhcjaflbfpalaaGreatDoorMh13
import Derived.Test.YtdhcjaflbfpalaaGreatDoorMh15
import Derived.Test.YtdhcjaflbfpalaaGreatDoorMh10
import Derived.Test.YtdhcjaflbfpalaaGreatDoorMh09
import Derived.Test.YtdhcjaflbfpalaaGreatDoorMh05
/-
  The program's tree: what is under an id, in the order of digests. Nothing that was there turns. Conditions: the tree lies where it should, nodes as the model has them.
-/
namespace Go.Proofs.YtdhcjaflbfpalaaGreatDoor.Sha
open Go Go.RowKit
def undT (L : List TNd) (id : List UInt8) : List (List UInt8) := if findT L id < 0 then [] else idsN L (subI L (findT L id).toNat)
/-- The same, and what kind of row it is. -/
def UnPost2 (L : List TNd) (id : List UInt8) (w : World) (e : Ending) (w' : World) : Prop :=
  Below w.heap.size w w' ∧ ∃ (v : Value) (l : List (List UInt8)), e = .returned v ∧ HsAt w' v l ∧ l.Perm (undT L id) ∧ (l.Pairwise fun x y => lessL y x = false) ∧ ∀ g, v.ownBlock = some g → ∃ cs, w'.heap[g]? = some (.cells cs 26 (0, 0))
def rowsO (M : List CNd) (O : List Nat) : List (List Value) := O.map fun o : Nat => [nptr (cnP M (o : Int))]
theorem yieldsIf_cutS_h {P : Program} {ops : Array Oper} {S : World → Prop} {op : Oper} {a : Act} (hw : Region.wanted op (yielded ops a.tmps) = true) (t : TypeId) (x hi : Operand) (ho : op.op = .slice t x none (some hi) none) (e : TypeId) (s : Nat) (hu : P.underlying t = some (.slice e)) (hsz : (P.info? e).map (·.size) = some s)
    (sp : Option Addr) (n cap r : Nat) (hx : a.eval x = .slice sp n cap) (hr : a.eval hi = .int .i64 r) (h2 : r ≤ cap) (v : Value) (hv : sliced sp 0 r cap s = v) : YieldsIf P ops S op v a :=
  .inl ⟨hw, fun w _ => by
    unfold execOp
    simp [ho, hx, hr, run_cutS_h (w := w) t e s sp n cap r hu hsz h2, Result.andThen, hv]⟩
theorem own_unlike {w : World} {base base' n n' k k' : Nat} {T T' : TypeId} {v v' : Value} {xs xs' : List Value} (h : w.ownsRow base T k v n xs) (h' : w.ownsRow base' T' k' v' n' xs') (hT : T ≠ T') : v.ownBlock = none ∨ v.ownBlock ≠ v'.ownBlock := by
  rcases h.2 with ⟨rfl, _⟩ | ⟨g, cap, cur, rfl, _, hc, _⟩
  · exact .inl rfl
  · refine .inr fun e => ?_
    exact own_ne' h' hc hT.symm e.symm
def UdInv (M : List CNd) (k gi : Nat) (w : World) (n : Nat) (vs : Value) (wr : World) : Prop :=
  ∃ (D O : List Nat) (ov iv : Value), ov = vs ∧ UnI (ndM M) k D O ∧ D.length + n = (subI (ndM M) k).length ∧ RwOwn 1 67 w.heap.size wr ov (rowsO M O) ∧ HsOwn w.heap.size wr iv (idsN (ndM M) D) ∧ wr.heap[gi]? = some (.cells #[iv] 52 (0, 0)) ∧ Below w.heap.size w wr
theorem RwOwn.head {k : Nat} {T : TypeId} {base : Nat} {w : World} {g m cap : Nat} {L : List (List Value)} {x : List Value} (h : RwOwn k T base w (.slice (some ⟨g, 0, none⟩) (m + 1) cap) (L ++ [x])) : RwOwn k T base w (.slice (some ⟨g, 0, none⟩) m cap) L := by
  have ha : AllK k L := fun y hy => h.2 y (List.mem_append_left _ hy)
  have hl := flatten_length L ha
  refine ⟨⟨hl, ?_⟩, ha⟩
  rcases h.1.2 with ⟨hv, _⟩ | ⟨g', cap', cur, hv, hb, hc, hn, hm, hs, ht⟩
  · cases hv
  · have e := (Value.slice.inj hv).2.1
    have e2 := (Value.slice.inj hv).1
    have e3 := (Value.slice.inj hv).2.2
    rw [List.length_append, List.length_singleton] at e
    have eg : g = g' := congrArg Addr.block (Option.some.inj e2)
    subst eg
    subst e3
    rw [List.length_append, List.length_singleton] at hn ht
    refine .inr ⟨g, cap, cur, by rw [show L.length = m by omega], hb, hc, by omega, hm, hs, ?_⟩
    have e5 : L.flatten.take (L.length * k) = L.flatten := List.take_of_length_le (by rw [hl]; exact Nat.le_refl _)
    have h1 := congrArg (List.take (L.length * k)) ht
    rw [List.take_take, Nat.min_eq_left (Nat.mul_le_mul_right _ (Nat.le_succ _)), List.flatten_append, List.take_append_of_le_length (by rw [hl]; exact Nat.le_refl _), e5] at h1
    exact h1
theorem wpList_slice_ptr {P : Program} {ops : Array Oper} {rest : List Oper} {o : Oper} {a : Act} {w : World} {Q : Exit → Act → World → Prop} (hg : o.guard = none) (t e : TypeId) (x : Operand) (ho : o.op = .buildSlice t 1 #[(0, x)]) (y : Option Addr) (hx : a.eval x = .pointer y)
    (hu : P.underlying t = some (.slice e)) (i : TypeInfo) (z : Value) (hi : P.info? e = some i) (hz : i.zero = some z) (hs : i.size = 1)
    (h : wpList P ops Q rest (a.put o.dst (.slice (some ⟨w.heap.size, 0, none⟩) 1 1)) (w.alloc (.cells #[.pointer y] e))) : wpList P ops Q (o :: rest) a w :=
  wpList_plain hg fun _ hK => by
    refine wp_buildSlice t e 1 _ ho #[.pointer y] i z hu hi hz (by rw [hs]; omega) (by rw [hs]; omega) ?_ (hK _ _ h)
    have e1 : (Array.map (fun (q : Nat × Operand) => (q.1, a.eval q.2)) #[(0, x)]).toList = [(0, .pointer y)] := by simp [hx]
    rw [show (Array.map (fun (i, x) => (i, a.eval x)) #[(0, x)]).toList = [(0, .pointer y)] from e1, ← Array.toArray_toList (xs := Array.map _ _)]
    rw [fill_part _ 0 0 (.pointer y) [.pointer y] _ _ rfl (by rw [hs]; rfl) (by simp [hs])]
    simp [hs, Instr.fill]
set_option maxHeartbeats 4000000 in
set_option maxRecDepth 100000 in
theorem ctunder_own (w : World) (base b mb : Nat) (M : List CNd) (id : List UInt8) (h : CtAt w base b mb M) (ht : TrL (ndM M)) (hid : id.length = 32) :
    Calls Tryz.prog 38 #[(.pointer (some ⟨b, 0, none⟩)), .agg (id.map bV).toArray] w (UnPost2 (ndM M) id w) := by
  have HT := Lib.hid h
  have TR := Lib.hid ht
  have LS := Lib.hid ht.start.1
  obtain ⟨vo, bo, hlk, hca⟩ := ct_look h ht id hid
  have LK := Lib.hid hlk
  have CA := Lib.hid hca
  have SC : Hid ((id.map bV).length = 32) := by show _ = _; rw [List.length_map]; exact hid
  obtain ⟨ci, hci⟩ : ∃ ci, ci = id.map bV := ⟨_, rfl⟩
  rw [← hci] at LK SC ⊢
  clear h ht hlk hca hid hci
  go_enter Tryz.func38, Tryz.ntmps38
  go_upto_region 1 with fail
  have f0 := heap_alloc_new w (.cells ci.toArray 26 (0, 0))
  have bb : Below w.heap.size w (w.alloc (.cells ci.toArray 26 (0, 0))) := ((Below.refl w.heap.size w).alloc (by first | exact Nat.le_refl _ | (simp only [World.size_alloc]; omega)) (.cells ci.toArray 26 (0, 0)))
  generalize hq : World.alloc _ _ = w1
  have eq : w.alloc (.cells ci.toArray 26 (0, 0)) = w1 := hq
  rw [eq] at f0 bb
  obtain ⟨g3, hg3⟩ : ∃ g3, g3 = w.heap.size := ⟨_, rfl⟩
  have Gg3 : Hid (w.heap.size ≤ g3) := by show _ ≤ _; omega
  rw [← hg3] at f0 ⊢
  have F3 := Lib.hid f0
  have B1 := Lib.hid bb
  clear f0 bb hq eq hg3
  refine wp_region_held_drew (S := (fun w' => Below w1.heap.size w1 w')) (by kernel_rfl) (Below.drew (Below.refl _ _)) (fun hHeld => ?_)
  generalize hwd : w1.drew = wd at  hHeld ⊢
  clear hwd
  refine held_take (i := 0) (v := (.pointer (some ⟨b, 0, none⟩))) rfl (by kernel_rfl) (by kernel_rfl) (by kernel_rfl) (fun _ _ _ h => h) (Or.inl ⟨by rfl, fun w' _ => by kernel_rfl⟩) hHeld ?_
  go_frame
  refine held_take (i := 1) (v := (.pointer (some ⟨b, 0, none⟩))) rfl (by kernel_rfl) (by kernel_rfl) (by kernel_rfl) (fun _ _ _ h => h) (Or.inl ⟨by rfl, fun w' _ => by kernel_rfl⟩) hHeld ?_
  go_frame
  refine held_take (i := 2) (v := (.pointer (some ⟨b, 32, none⟩))) rfl (by kernel_rfl) (by kernel_rfl) (by kernel_rfl) (fun _ _ _ h => h) (Or.inl ⟨by rfl, fun w' _ => by kernel_rfl⟩) hHeld ?_
  go_frame
  refine held_take (i := 3) (v := (.map (some mb))) rfl (by kernel_rfl) (by kernel_rfl) (by kernel_rfl) (fun _ _ _ h => h) (yieldsIf_load_one (by rfl) 71 (.tmp 13) rfl b (32) rfl _ _ (fun w' hw' => (HT.out.below (B1.out.trans (hw'.mono B1.out.size))).mcell LS.out) Tryz.underlying71 rfl) hHeld ?_
  go_frame
  refine held_take (i := 4) (v := (.agg ci.toArray)) rfl (by kernel_rfl) (by kernel_rfl) (by kernel_rfl) (fun _ _ _ h => h) (yieldsIf_load_row (by rfl) 26 (.tmp 3) rfl g3 rfl 26 ci.toArray (0, 0) _ (fun w' hw' => row_below F3.out hw') Tryz.underlying26 rfl (by show _ = some ci.length; rw [SC.out]; kernel_rfl)) hHeld ?_
  go_frame
  refine held_take (i := 5) (v := (.tuple #[vo, .bool bo])) rfl (by kernel_rfl) (by kernel_rfl) (by kernel_rfl) (fun _ _ _ h => h) (yieldsIf_lookup (by rfl) 71 (.tmp 14) (.tmp 15) true rfl _ _ _ rfl rfl (fun w' hw' => LK.out w' (B1.out.trans (hw'.mono B1.out.size)))) hHeld ?_
  go_frame
  refine held_take (i := 6) (v := (.tuple #[vo, .bool bo])) rfl (by kernel_rfl) (by kernel_rfl) (by kernel_rfl) (fun _ _ _ h => h) (Or.inl ⟨by rfl, fun w' _ => by kernel_rfl⟩) hHeld ?_
  go_frame
  refine held_take (i := 7) (v := vo) rfl (by kernel_rfl) (by kernel_rfl) (by kernel_rfl) (fun _ _ _ h => h) (Or.inl ⟨by rfl, fun w' _ => by kernel_rfl⟩) hHeld ?_
  go_frame
  refine held_take (i := 8) (v := (.bool bo)) rfl (by kernel_rfl) (by kernel_rfl) (by kernel_rfl) (fun _ _ _ h => h) (Or.inl ⟨by rfl, fun w' _ => by kernel_rfl⟩) hHeld ?_
  go_frame
  refine held_take (i := 9) (v := vo) rfl (by kernel_rfl) (by kernel_rfl) (by kernel_rfl) (fun _ _ _ h => h) (Or.inl ⟨by rfl, fun w' _ => by kernel_rfl⟩) hHeld ?_
  go_frame
  refine held_take (i := 10) (v := (.bool bo)) rfl (by kernel_rfl) (by kernel_rfl) (by kernel_rfl) (fun _ _ _ h => h) (Or.inl ⟨by rfl, fun w' _ => by kernel_rfl⟩) hHeld ?_
  go_frame
  refine wpAnyH_done (by kernel_rfl) ?_ _
  obtain ⟨v9, hv9⟩ : ∃ v9, v9 = wd := ⟨_, rfl⟩
  rw [← hv9] at  hHeld ⊢
  clear hv9
  have B2 := Lib.hid (B1.out.trans (hHeld.mono B1.out.size))
  clear hHeld LK F3 B1
  rcases CA.out with ⟨h1, rfl, rfl⟩ | ⟨k, c, h1, h2, h3, rfl, rfl⟩
  · have AE : Hid (undT (ndM M) id = []) := by show _ = _; unfold undT; rw [h1, if_pos (by omega)]
    clear h1
    go_wp2_with fail
    go_ret
    exact ⟨B2.out, _, [], rfl, HsAt.nil _ _ _, by rw [AE.out], List.Pairwise.nil, fun g e => by cases e⟩
  · have HC := Lib.hid h2
    have H1 := Lib.hid h1
    clear h1 h2 h3
    obtain ⟨i0, hi, hz0, hz1, hz2⟩ := info_parts info_nptr
    go_upto_region 5 with fail
    have nf := heap_alloc_new v9 (.cells #[.slice none 0 0] 52 (0, 0))
    have bb := (Below.refl v9.heap.size v9).alloc (Nat.le_refl _) (.cells #[.slice none 0 0] 52 (0, 0))
    generalize hq : World.alloc _ _ = w4
    have eq : v9.alloc (.cells #[.slice none 0 0] 52 (0, 0)) = w4 := hq
    rw [eq] at nf bb
    obtain ⟨gi, hg0⟩ : ∃ g, g = v9.heap.size := ⟨_, rfl⟩
    rw [← hg0] at nf ⊢
    have F4 := Lib.hid nf
    have B4 := Lib.hid (B2.out.trans (bb.mono B2.out.size))
    have NI : Hid (w.heap.size ≤ gi) := by show _ ≤ _; rw [hg0]; exact B2.out.size
    clear nf bb hq eq hg0
    go_wp2_with ((with_reducible show wpList _ _ _ _ _ _); (refine wpList_slice_ptr rfl 68 67 (.tmp 21) rfl (some ⟨c.ad, 0, none⟩) rfl Tryz.underlying68 i0 _ hi hz0 hz1 ?_; go_frame))
    have nf := heap_alloc_new w4 (.cells #[(.pointer (some ⟨c.ad, 0, none⟩))] 67 (0, 0))
    have bb := (Below.refl w4.heap.size w4).alloc (Nat.le_refl _) (.cells #[(.pointer (some ⟨c.ad, 0, none⟩))] 67 (0, 0))
    generalize hq : World.alloc _ _ = w5
    have eq : w4.alloc (.cells #[(.pointer (some ⟨c.ad, 0, none⟩))] 67 (0, 0)) = w5 := hq
    rw [eq] at nf bb
    obtain ⟨go, hg0⟩ : ∃ g, g = w4.heap.size := ⟨_, rfl⟩
    rw [← hg0] at nf ⊢
    have F6 := Lib.hid nf
    have B5 := Lib.hid (B4.out.trans (bb.mono B4.out.size))
    have F5 := Lib.hid (row_below F4.out bb)
    have OW5 : Hid (RwOwn 1 67 w.heap.size w5 (.slice (some ⟨go, 0, none⟩) 1 1) (rowsO M [k])) := by
      have e : rowsO M [k] = [[.pointer (some ⟨c.ad, 0, none⟩)]] := by unfold rowsO; rw [List.map_singleton, cnP_at HC.out]; rfl
      show RwOwn _ _ _ _ _ _
      rw [e]
      exact ⟨⟨rfl, .inr ⟨go, 1, _, rfl, by rw [hg0]; exact B4.out.size, nf, Nat.le_refl 1, by unfold maxLen; omega, rfl, rfl⟩⟩, fun x hx => by rw [List.mem_singleton.1 hx]; rfl⟩
    clear nf bb hq eq hg0 F6 F4 B4
    go_loopg [8] (subI (ndM M) k).length (fun n vs wr => UdInv M k gi w n vs wr)
    case atStart => exact ⟨[], [k], _, _, rfl, UnI.first _ (by rw [ndM_length]; exact (List.getElem?_eq_some_iff.1 HC.out).1), by simp, OW5.out, HsOwn.nil _ _, F5.out, B5.out⟩
    case round =>
      clear OW5 F5 B5
      obtain ⟨D, O, ov, iv, rfl, hu, hn, ho, hiv, hf, hb⟩ := hrel
      have HU := Lib.hid hu
      have HN := Lib.hid hn
      have HO := Lib.hid ho
      have HV := Lib.hid hiv
      have FI := Lib.hid hf
      have B := Lib.hid hb
      clear hu hn ho hiv hf hb
      rcases List.eq_nil_or_concat O with rfl | ⟨O, o, rfl⟩
      · obtain ⟨sp, cap, rfl⟩ := (HO.out.at (by decide)).shape
        have ci0 : wr.cell? ⟨gi, 0, none⟩ = some iv := by rw [cell_of_row _ _ _ _ _ _ FI.out]; rfl
        have hd := HU.out.done
        have h1 : 1 ≤ (idsN (ndM M) D).length := by
          unfold idsN
          rw [List.length_map, hd.length_eq]
          exact List.length_pos_of_mem (sub_self TR.out (ndM_at HC.out))
        have h2 : (idsN (ndM M) D).length ≤ 1048576 := by
          have h3 := sub_le (ndM M) k
          have h4 := TR.out.le
          unfold idsN
          rw [List.length_map, hd.length_eq]
          omega
        have HS := hssort_own w.heap.size gi iv (idsN (ndM M) D) wr HV.out FI.out h2 h1
        go_wp2_with fail
        refine HS.mono ?_
        rintro e w2 ⟨rfl, l, hp, hs, hat, hg, hty⟩
        have TY := Lib.hid hty
        have ci2 : w2.cell? ⟨gi, 0, none⟩ = some iv := by rw [cell_of_row _ _ _ _ _ _ (row_far FI.out hg (own_ne' HV.out.1 FI.out (by decide)))]; rfl
        have PP : Hid (l.Perm (undT (ndM M) id)) := by
          have e1 : undT (ndM M) id = idsN (ndM M) (subI (ndM M) k) := by unfold undT; rw [H1.out, if_neg (by omega), Int.toNat_natCast]
          show l.Perm _
          rw [e1]
          exact hp.trans (hd.map _)
        have PS := Lib.hid hs
        have AT := Lib.hid hat
        have BE := Lib.hid (own_grown B.out (Nat.le_refl _) B.out.size HV.out.1 hg)
        clear hp hs hat hg hty hd h1 h2 HS ci0
        go_wp2_with fail
        go_ret
        exact ⟨BE.out, _, l, rfl, AT.out, PP.out, PS.out, TY.out⟩
      · rw [List.concat_eq_append] at HU HO
        obtain ⟨co, hco⟩ : ∃ co, M[o]? = some co := ⟨_, List.getElem?_eq_getElem (by have := HU.out.lt o (by simp); rwa [ndM_length] at this)⟩
        have HCO := Lib.hid hco
        have RE : Hid (rowsO M (O ++ [o]) = rowsO M O ++ [[.pointer (some ⟨co.ad, 0, none⟩)]]) := by
          show _ = _
          unfold rowsO
          rw [List.map_append, List.map_singleton, cnP_at hco]
          rfl
        obtain ⟨m, hm⟩ : ∃ m, m = O.length := ⟨_, rfl⟩
        rw [RE.out] at HO
        have hl : (rowsO M O ++ [[Value.pointer (some ⟨co.ad, 0, none⟩)]]).length = m + 1 := by unfold rowsO; rw [List.length_append, List.length_map, hm]; rfl
        obtain ⟨gO, cap, cur, hv, _, hgo, hcap, _⟩ : ∃ g cap cur, ov = .slice (some ⟨g, 0, none⟩) (m + 1) cap ∧ w.heap.size ≤ g ∧ wr.heap[g]? = some (.cells cur 67 (0, 0)) ∧ m + 1 ≤ cap ∧ cap ≤ maxLen := by
          rcases HO.out.1.2 with ⟨_, h0⟩ | ⟨g, cap, cur, hv, hb, hc, hn, hm2, _⟩
          · rw [hl] at h0; omega
          · rw [hl] at hv hn
            exact ⟨g, cap, cur, hv, hb, hc, hn, hm2⟩
        subst hv
        have hcm : wr.cell? ⟨gO, m, none⟩ = some (.pointer (some ⟨co.ad, 0, none⟩)) := by
          have h0 := HO.out.1
          rw [hl] at h0
          have h1 := h0.cellAt m (by omega)
          have h2 := flatten_get _ m [Value.pointer (some ⟨co.ad, 0, none⟩)] HO.out.2 (by rw [List.getElem?_append_right (by unfold rowsO; rw [List.length_map, hm]; exact Nat.le_refl _)]; unfold rowsO; rw [List.length_map, hm, Nat.sub_self]; rfl) 0 (by decide)
          rw [Nat.mul_one, Nat.add_zero] at h2
          rw [h1, h2]
          rfl
        have GO := Lib.hid hgo
        have HH := Lib.hid HO.out.head
        have CAP := Lib.hid hcap
        have ML : Hid (m + D.length ≤ 4096) := by
          have := HU.out.le TR.out
          have h3 := sub_le (ndM M) k
          have h4 := TR.out.le
          rw [List.length_append, List.length_singleton] at this
          show _ ≤ _
          omega
        have ME := Lib.hid hm
        have ml : m ≤ 4096 := by have := ML.out; omega
        clear hco hl hgo hcap hm HO RE
        have CUT : Hid (sliced (some ⟨gO, 0, none⟩) 0 m cap 1 = .slice (some ⟨gO, 0, none⟩) m cap) := by show _ = _; unfold sliced; split <;> rfl
        have NG : Hid (gO ≠ gi) := fun e => by
          have h1 := GO.out
          rw [e, FI.out] at h1
          exact absurd (Obj.cells.inj (Option.some.inj h1)).2.1 (by decide)
        have RL : Hid ((rowsO M O).length = m) := by show _ = _; unfold rowsO; rw [List.length_map]; exact ME.out.symm
        have KL : Hid ((kidsM M o).length ≤ 4096) := by
          have h4 := TR.out.le
          show _ ≤ _
          unfold kidsM kidsI
          rw [List.length_map]
          refine Nat.le_trans (List.length_filter_le _ _) ?_
          rw [List.length_range]
          exact h4
        have KO : Hid (∀ x ∈ kidsM M o, ∀ u ∈ x, u.oneCell' = true) := fun x hx u hu => by
          obtain ⟨j, _, rfl⟩ := List.mem_map.1 hx
          rw [List.mem_singleton.1 hu]
          exact nptr_one _
        obtain ⟨gn, hgn⟩ : ∃ n, gk = n + 1 := ⟨gk - 1, by
          have h1 := HU.out.le TR.out
          have h2 := HN.out
          rw [List.length_append, List.length_singleton] at h1
          omega⟩
        subst hgn
        obtain ⟨ix, hix⟩ : ∃ ix, ix = co.nd.id := ⟨_, rfl⟩
        have LX : Hid (ix.length = 32) := by show _ = _; rw [hix]; exact (TR.out.ok _ (List.mem_of_getElem? (ndM_at HCO.out))).1
        obtain ⟨cx, hcx⟩ : ∃ cx, cx = ix.map bV := ⟨_, rfl⟩
        have LC : Hid (cx.length = 32) := by show _ = _; rw [hcx, List.length_map]; exact LX.out
        have OC : Hid (∀ u ∈ cx, u.oneCell' = true) := by rw [hcx]; exact bV_one' _
        have RI : Hid (∀ U, Below w.heap.size w U → U.rangeAt co.ad 0 cx) := fun U hU => by rw [hcx, hix]; exact HT.out.idr HCO.out hU
        have CXE := Lib.hid hcx
        obtain ⟨dl, hdl⟩ : ∃ dl, dl = idsN (ndM M) D := ⟨_, rfl⟩
        have DLL : Hid (dl.length ≤ 4096) := by
          have := ML.out
          show _ ≤ _
          rw [hdl]
          unfold idsN
          rw [List.length_map]
          omega
        have DX : Hid (idsN (ndM M) (D ++ [o]) = dl ++ [ix]) := by
          show _ = _
          rw [hdl, hix]
          unfold idsN
          rw [List.map_append, List.map_singleton, getD_at (ndM_at HCO.out)]
        rw [← hdl] at HV
        clear hix hcx hdl
        go_upto_region 8 with fail
        refine wp_region_end (fun w' => Below wr.heap.size wr w') [9] (by kernel_rfl) (Below.drew (Below.refl _ _)) (fun hHeld => ?_)
        generalize hwd : wr.drew = wd at  hHeld ⊢
        clear hwd
        refine end_take (i := 0) (v := (.slice (some ⟨gO, 0, none⟩) (m + 1) cap)) rfl (by kernel_rfl) (by kernel_rfl) (by kernel_rfl) (by kernel_rfl) (fun _ _ _ h => h) (Or.inl ⟨by rfl, fun w' _ => by kernel_rfl⟩) hHeld ?_
        go_frame
        refine end_take (i := 1) (v := (.slice (some ⟨gO, 0, none⟩) (m + 1) cap)) rfl (by kernel_rfl) (by kernel_rfl) (by kernel_rfl) (by kernel_rfl) (fun _ _ _ h => h) (Or.inl ⟨by rfl, fun w' _ => by kernel_rfl⟩) hHeld ?_
        go_frame
        refine end_take (i := 2) (v := (.int .i64 ((m : Int) + 1))) rfl (by kernel_rfl) (by kernel_rfl) (by kernel_rfl) (by kernel_rfl) (fun _ _ _ h => h) (Or.inl ⟨by rfl, fun w' _ => by go_simp⟩) hHeld ?_
        go_frame
        refine end_take (i := 3) (v := (.int .i64 (m : Int))) rfl (by kernel_rfl) (by kernel_rfl) (by kernel_rfl) (by kernel_rfl) (fun _ _ _ h => h) (Or.inl ⟨by rfl, fun w' _ => by go_simp; rw [IntKind.wrap_i64]; omega⟩) hHeld ?_
        go_frame
        refine end_take (i := 4) (v := (.slice (some ⟨gO, 0, none⟩) m cap)) rfl (by kernel_rfl) (by kernel_rfl) (by kernel_rfl) (by kernel_rfl) (fun _ _ _ h => h) (yieldsIf_cutS_h (by rfl) 68 (.tmp 32) (.tmp 35) rfl 67 1 Tryz.underlying68 (by kernel_rfl) (some ⟨gO, 0, none⟩) (m + 1) cap m rfl rfl (by have := CAP.out; omega) _ CUT.out) hHeld ?_
        go_frame
        refine end_take (i := 5) (v := (.pointer (some ⟨co.ad, 0, none⟩))) rfl (by kernel_rfl) (by kernel_rfl) (by kernel_rfl) (by kernel_rfl) (fun _ _ _ h => h) (Or.inl ⟨by rfl, fun w' _ => by kernel_rfl⟩) hHeld ?_
        go_frame
        refine end_take (i := 6) (v := (.pointer (some ⟨co.ad, 0, none⟩))) rfl (by kernel_rfl) (by kernel_rfl) (by kernel_rfl) (by kernel_rfl) (fun _ _ _ h => h) (Or.inl ⟨by rfl, fun w' _ => by kernel_rfl⟩) hHeld ?_
        go_frame
        refine end_take (i := 7) (v := (.pointer (some ⟨co.ad, 103, none⟩))) rfl (by kernel_rfl) (by kernel_rfl) (by kernel_rfl) (by kernel_rfl) (fun _ _ _ h => h) (Or.inl ⟨by rfl, fun w' _ => by kernel_rfl⟩) hHeld ?_
        go_frame
        refine end_take (i := 8) (v := co.kids) rfl (by kernel_rfl) (by kernel_rfl) (by kernel_rfl) (by kernel_rfl) (fun _ _ _ h => h) (yieldsIf_load_one (by rfl) 68 (.tmp 39) rfl co.ad (103) rfl _ _ (fun w' hw' => (HT.out.cells TR.out HCO.out (B.out.trans (hw'.mono B.out.size))).2.2.2) Tryz.underlying68 rfl) hHeld ?_
        go_frame
        refine end_last (i := 9) (by kernel_rfl) (by kernel_rfl) rfl (fun K hK => ?_)
        rw [if_pos (by rfl)]
        have HHa := Lib.hid (HH.out.keep hHeld)
        have Ba := Lib.hid (B.out.trans (hHeld.mono B.out.size))
        have HVa := Lib.hid (HV.out.keep hHeld)
        have FIa := Lib.hid (row_below FI.out hHeld)
        have GOa := Lib.hid (row_below GO.out hHeld)
        refine wp_append_rw wd (.tmp 36) (.tmp 40) 68 rfl w.heap.size 67 i0 (.pointer none) 1 8 Tryz.underlying68 hi hz0 hz1 hz2 (by kernel_rfl) (by decide) (.slice (some ⟨gO, 0, none⟩) m cap) (rowsO M O) rfl HHa.out co.kids (kidsM M o) rfl (((HT.out.below Ba.out).kid o co HCO.out).at (by decide)) KO.out (by have := RL.out; have := KL.out; have := ML.out; omega) (by have := RL.out; have := KL.out; have := ML.out; unfold maxLen; omega) Ba.out.size ?_
        intro nv w8 q1 q2
        have OW8 := Lib.hid q1
        have HV8 := Lib.hid (HVa.out.kept q2 (.inr (own_ne' HVa.out.1 GOa.out (by decide))))
        have F8 := Lib.hid (row_far FIa.out q2 (fun e => NG.out (Option.some.inj e)))
        have B8 := Lib.hid (own_grown Ba.out (Nat.le_refl _) Ba.out.size HHa.out.1 q2)
        clear q1 q2 hHeld HHa Ba HVa FIa GOa HV FI GO HH B
        go_frame
        refine hK.out _ _ ?_
        clear hK K
        refine end_late (i := 10) (v := nv) rfl (by kernel_rfl) (by kernel_rfl) (by kernel_rfl) (by kernel_rfl) (by kernel_rfl) (fun _ _ _ h => h) (Or.inl ⟨by rfl, fun w' _ => by kernel_rfl⟩) ?_
        go_frame
        refine end_done (by kernel_rfl) ?_ _
        clear hi hz0 hz1 hz2
        obtain ⟨i0, hi, hz0, hz1, hz2⟩ := info_parts info_hash
        go_upto_region 9 with fail
        refine wp_region_end (fun w' => Below w8.heap.size w8 w') [6, 7] (by kernel_rfl) (Below.drew (Below.refl _ _)) (fun hHeld => ?_)
        generalize hwd : w8.drew = wd at  hHeld ⊢
        clear hwd
        refine end_take (i := 0) (v := iv) rfl (by kernel_rfl) (by kernel_rfl) (by kernel_rfl) (by kernel_rfl) (fun _ _ _ h => h) (yieldsIf_load_one (by rfl) 52 (.tmp 7) rfl gi (0) rfl _ _ (fun w' hw' => by rw [cell_of_row _ _ _ _ _ _ (row_below F8.out hw')]; rfl) Tryz.underlying52 rfl) hHeld ?_
        go_frame
        refine end_take (i := 1) (v := (.pointer (some ⟨co.ad, 0, none⟩))) rfl (by kernel_rfl) (by kernel_rfl) (by kernel_rfl) (by kernel_rfl) (fun _ _ _ h => h) (Or.inl ⟨by rfl, fun w' _ => by kernel_rfl⟩) hHeld ?_
        go_frame
        refine end_take (i := 2) (v := (.pointer (some ⟨co.ad, 0, none⟩))) rfl (by kernel_rfl) (by kernel_rfl) (by kernel_rfl) (by kernel_rfl) (fun _ _ _ h => h) (Or.inl ⟨by rfl, fun w' _ => by kernel_rfl⟩) hHeld ?_
        go_frame
        refine end_take (i := 3) (v := (.pointer (some ⟨co.ad, 0, none⟩))) rfl (by kernel_rfl) (by kernel_rfl) (by kernel_rfl) (by kernel_rfl) (fun _ _ _ h => h) (Or.inl ⟨by rfl, fun w' _ => by kernel_rfl⟩) hHeld ?_
        go_frame
        refine end_take (i := 4) (v := (.agg cx.toArray)) rfl (by kernel_rfl) (by kernel_rfl) (by kernel_rfl) (by kernel_rfl) (fun _ _ _ h => h) (Sha.yieldsIf_load_mid (by rfl) 26 (.tmp 45) rfl co.ad (0) rfl cx _ (fun w' hw' => RI.out _ (B8.out.trans (hw'.mono B8.out.size))) Tryz.underlying26 rfl (by rw [LC.out]; kernel_rfl)) hHeld ?_
        go_frame
        refine end_next (i := 5) (by kernel_rfl) rfl (fun K hK => ?_)
        rw [if_pos (by rfl)]
        refine wp_slice_one 52 26 (.tmp 46) rfl (cx) rfl Tryz.underlying52 i0 _ hi hz0 (by rw [hz1, LC.out]) (by rw [LC.out]; omega) (by rw [LC.out]; omega) ?_
        have nf := heap_alloc_new wd (.cells (cx).toArray 26 (0, 0))
        have bb := (Below.refl wd.heap.size wd).alloc (Nat.le_refl _) (.cells (cx).toArray 26 (0, 0))
        obtain ⟨gv1, hgv1⟩ : ∃ g, g = wd.heap.size := ⟨_, rfl⟩
        generalize hqv1 : World.alloc _ _ = v1
        have ev1 : wd.alloc (.cells (cx).toArray 26 (0, 0)) = v1 := hqv1
        rw [ev1] at nf bb
        rw [← hgv1] at nf ⊢
        have NF := Lib.hid nf
        have hv1 := hHeld.trans (bb.mono hHeld.size)
        clear nf bb hqv1 ev1 hgv1 hHeld
        go_frame
        refine hK.out _ _ hv1 (fun hHeld => ?_)
        clear hK K hv1
        refine end_last (i := 6) (by kernel_rfl) (by kernel_rfl) rfl (fun K hK => ?_)
        rw [if_pos (by rfl)]
        have OWa := Lib.hid (OW8.out.keep hHeld)
        have Ba := Lib.hid (B8.out.trans (hHeld.mono B8.out.size))
        have HVa := Lib.hid (HV8.out.keep hHeld)
        have FIa := Lib.hid (row_below F8.out hHeld)
        refine wp_append_row v1 (.tmp 42) (.tmp 47) 52 rfl w.heap.size 26 i0 (.agg (List.replicate 32 (bV 0)).toArray) 32 32 Tryz.underlying52 hi hz0 hz1 hz2 (by kernel_rfl) (by decide) iv dl.length (hsL dl) rfl HVa.out.1 ⟨gv1, 0, none⟩ 1 1 cx rfl (by rw [LC.out]) (fun j u hj => by rw [Addr.add_mid]; exact range_of_box NF.out j u hj) OC.out (by have := DLL.out; unfold maxLen; omega) (by have := DLL.out; omega) Ba.out.size ?_
        intro v2 w10 q1 q2 _
        have VO := Lib.hid (own_one q1)
        have HVn : Hid (HsOwn w.heap.size w10 v2 (dl ++ [ix])) := HsOwn.push HVa.out.2 LX.out (by rw [← CXE.out]; exact q1)
        have OWn := Lib.hid (OWa.out.kept q2 (own_unlike OWa.out.1 HVa.out.1 (by decide)))
        have Fn := Lib.hid (row_far FIa.out q2 (own_ne' HVa.out.1 FIa.out (by decide)))
        have Bn := Lib.hid (own_grown Ba.out (Nat.le_refl _) Ba.out.size HVa.out.1 q2)
        clear q1 q2 hHeld OWa Ba HVa FIa OW8 HV8 F8 B8 NF
        go_frame
        refine hK.out _ _ ?_
        clear hK K
        refine end_last (i := 7) (by kernel_rfl) (by kernel_rfl) rfl (fun K hK => ?_)
        rw [if_pos (by rfl)]
        refine wp_store_part 52 (.tmp 7) (.tmp 48) rfl gi 0 [] [iv] [] [v2] 52 v2 rfl rfl (cells_one VO.out) rfl rfl Fn.out (by kernel_rfl) (one_mem VO.out) ?_
        intro w11 q1 q2
        have F11 := Lib.hid q1
        have HV11 := Lib.hid (HVn.out.kept q2 (.inr (own_ne' HVn.out.1 Fn.out (by decide))))
        have OW11 := Lib.hid (OWn.out.kept q2 (.inr (own_ne' OWn.out.1 Fn.out (by decide))))
        have B11 := Lib.hid (Bn.out.grown q2 Bn.out.size (fun k hk => by cases hk; exact NI.out))
        clear q1 q2 OWn HVn Fn Bn
        go_frame
        refine hK.out _ _ ?_
        clear hK K
        refine end_done (by kernel_rfl) ?_ _
        go_wp2_with fail
        go_roundg gn
        case measure => omega
        case rel => exact ⟨D ++ [o], O ++ kidsI (ndM M) o, nv, v2, rfl, HU.out.step TR.out, by have := HN.out; rw [List.length_append, List.length_singleton]; omega, by have h := OW11.out; unfold rowsO at h ⊢; rw [List.map_append]; exact h, by rw [DX.out]; exact HV11.out, F11.out, B11.out⟩
end Go.Proofs.YtdhcjaflbfpalaaGreatDoor.Sha

/-
  Marks over a tree: ranks, which blocks are marked, what a heap of ranks holds of them. Pure. Conditions: a tree whose nodes hang on one another.
-/
namespace Go.Proofs.YtdhcjaflbfpalaaGreatDoor.Sha
open Go Go.RowKit
open Go.Sort (SWO)
structure Rk where
  work : Nat
  id : OH
instance : Inhabited Rk := ⟨⟨0, default⟩⟩
def rkL (r : Rk) : List Value := .int .u64 (r.work : Int) :: r.id.1.map bV
theorem rkL_length (r : Rk) : (rkL r).length = 33 := by simp [rkL, r.id.2]
theorem rkL_one (r : Rk) : ∀ u ∈ rkL r, u.oneCell' = true := by
  intro u hu
  rcases List.mem_cons.1 hu with rfl | h
  · rfl
  · exact bV_one' _ u h
def overK (a b : Rk) : Bool := if a.work = b.work then lessL a.id.1 b.id.1 else decide (b.work < a.work)
theorem overK_total {a b : Rk} (h : overK a b = false) (k : overK b a = false) : a.work = b.work ∧ a.id.1 = b.id.1 := by
  have e : a.work = b.work := by
    by_cases e : a.work = b.work
    · exact e
    · unfold overK at h k
      rw [if_neg e] at h
      rw [if_neg (fun e' => e e'.symm)] at k
      have h' := of_decide_eq_false h
      have k' := of_decide_eq_false k
      omega
  unfold overK at h k
  rw [if_pos e] at h
  rw [if_pos e.symm] at k
  refine ⟨e, ?_⟩
  by_cases e2 : a.id.1 = b.id.1
  · exact e2
  · have := less_total _ _ (a.id.2.trans b.id.2.symm) e2 h
    rw [k] at this
    cases this
theorem swoK : SWO overK := by
  refine ⟨fun x => ?_, fun x y z h k => ?_, fun x y z h k => ?_⟩
  · unfold overK; rw [if_pos rfl]; exact swoH.irrefl x.id
  · unfold overK at *
    by_cases e1 : x.work = y.work
    · rw [if_pos e1] at h
      by_cases e2 : y.work = z.work
      · rw [if_pos e2] at k
        rw [if_pos (e1.trans e2)]
        exact swoH.trans x.id y.id z.id h k
      · rw [if_neg e2] at k
        rw [if_neg (by omega)]
        have := of_decide_eq_true k
        exact decide_eq_true (by omega)
    · rw [if_neg e1] at h
      have h' := of_decide_eq_true h
      by_cases e2 : y.work = z.work
      · rw [if_neg (by omega)]
        exact decide_eq_true (by omega)
      · rw [if_neg e2] at k
        have := of_decide_eq_true k
        rw [if_neg (by omega)]
        exact decide_eq_true (by omega)
  · unfold overK at *
    by_cases e1 : x.work = y.work
    · rw [if_pos e1] at h
      by_cases e2 : y.work = z.work
      · rw [if_pos e2] at k
        rw [if_pos (e1.trans e2)]
        exact swoH.ntrans x.id y.id z.id h k
      · rw [if_neg e2] at k
        rw [if_neg (by omega)]
        have := of_decide_eq_false k
        exact decide_eq_false (by omega)
    · rw [if_neg e1] at h
      have h' := of_decide_eq_false h
      by_cases e2 : y.work = z.work
      · rw [if_neg (by omega)]
        exact decide_eq_false (by omega)
      · rw [if_neg e2] at k
        have := of_decide_eq_false k
        rw [if_neg (by omega)]
        exact decide_eq_false (by omega)
-- ---------------------------------------------------------------- which are marked
abbrev IdSet := List (List UInt8 × Unit)
def inI (B : IdSet) (id : List UInt8) : Bool := (getG B id).isSome
def idAt (L : List TNd) (j : Int) : List UInt8 := (L.getD j.toNat ndZ).id
def isW (L : List TNd) (B : IdSet) : Nat → List UInt8 → Bool
  | 0, _ => false
  | h + 1, id => inI B id || isW L B h (ofT L id).1.prev
def isM (L : List TNd) (B : IdSet) (id : List UInt8) : Bool := isW L B (ofT L id).2.1.toNat id
def isU (L : List TNd) (B : IdSet) (k : Int) : Bool := (upL L k).any fun j => decide (0 < j) && inI B (idAt L j)
section
variable {L : List TNd} {B : IdSet}
theorem idAt_at {k : Nat} {x : TNd} (hx : L[k]? = some x) : idAt L (k : Int) = x.id := by
  unfold idAt
  rw [getD_int hx]
theorem ofT_at (ht : TrL L) {k : Nat} {x : TNd} (hx : L[k]? = some x) : ofT L x.id = (x.h, x.height, x.work, true) := by
  have e := findT_id ht hx
  unfold ofT
  rw [e, if_neg (by omega), getD_int hx]
theorem ofT_none {id : List UInt8} (h : findT L id < 0) : ofT L id = (ndZ.h, 0, 0, false) := by
  unfold ofT
  rw [if_pos h]
theorem isW_up (ht : TrL L) (hh : Hung L) : ∀ (n k : Nat) (x : TNd), k ≤ n → L[k]? = some x → isW L B x.height.toNat x.id = isU L B (k : Int) := by
  intro n
  induction n with
  | zero =>
    intro k x hk hx
    obtain rfl : k = 0 := Nat.le_zero.1 hk
    rcases ht.parent hx with ⟨_, e1, e2⟩ | ⟨p, y, hp, _⟩
    · unfold isU
      rw [upL_step ht.down hx, e1, upL_neg (by decide), e2]
      rfl
    · omega
  | succ n ih =>
    intro k x hk hx
    rcases ht.parent hx with ⟨e0, e1, e2⟩ | ⟨p, y, hp, ep, hy, eh⟩
    · unfold isU
      rw [upL_step ht.down hx, e1, upL_neg (by decide), e2, e0]
      rfl
    · have hy0 := (ht.height hy).1
      have e : x.height.toNat = y.height.toNat + 1 := by omega
      have pv : x.h.prev = y.id := by
        have := hh k x hx (by omega)
        rw [ep, getD_int hy] at this
        exact this.symm
      have i := ih p y (by omega) hy
      rw [e, isW, ofT_at ht hx]
      show (inI B x.id || isW L B y.height.toNat x.h.prev) = _
      rw [pv, i]
      unfold isU
      rw [upL_step ht.down hx, ep, List.any_cons, idAt_at hx, decide_eq_true (show (0 : Int) < (k : Int) by omega), Bool.true_and]
theorem isM_at (ht : TrL L) (hh : Hung L) {k : Nat} {x : TNd} (hx : L[k]? = some x) : isM L B x.id = isU L B (k : Int) := by
  unfold isM
  rw [ofT_at ht hx]
  exact isW_up ht hh k k x (Nat.le_refl _) hx
theorem found {id : List UInt8} (h : 0 ≤ findT L id) : ∃ (k : Nat) (x : TNd), findT L id = (k : Int) ∧ L[k]? = some x ∧ x.id = id := by
  rcases findT_cases L id with ⟨e, _⟩ | ⟨k, x, e, hx, hi, _⟩
  · omega
  · exact ⟨k, x, e, hx, hi⟩
theorem idAt_push {y : TNd} {j : Int} (h1 : 0 ≤ j) (h : j < (L.length : Int)) : idAt (L ++ [y]) j = idAt L j := by
  unfold idAt
  rw [List.getD_eq_getElem?_getD, List.getD_eq_getElem?_getD, List.getElem?_append_left (by omega)]
theorem isM_push (ht : TrL L) (hh : Hung L) {y : TNd} (ht' : TrL (L ++ [y])) (hh' : Hung (L ++ [y])) {id : List UInt8} (h : 0 ≤ findT L id) : isM (L ++ [y]) B id = isM L B id := by
  obtain ⟨k, x, _, hx, rfl⟩ := found h
  have hk : k < L.length := (List.getElem?_eq_some_iff.1 hx).1
  have hx' : (L ++ [y])[k]? = some x := by rw [List.getElem?_append_left hk]; exact hx
  rw [isM_at ht hh hx, isM_at ht' hh' hx']
  unfold isU
  rw [upL_push ht.down y (by omega)]
  have hm := upL_mem ht.down k k (Nat.le_refl _) hk
  revert hm
  generalize upL L (k : Int) = ul
  intro hm
  induction ul with
  | nil => rfl
  | cons a l ih =>
    obtain ⟨a0, a1⟩ := hm a List.mem_cons_self
    rw [List.any_cons, List.any_cons, ih (fun j hj => hm j (List.mem_cons_of_mem _ hj)), idAt_push a0 a1]
theorem upL_sub (ht : TrL L) : ∀ (n k : Nat), k ≤ n → k < L.length → ∀ j ∈ upL L (k : Int), ∀ i ∈ upL L j, i ∈ upL L (k : Int) := by
  intro n
  induction n with
  | zero =>
    intro k hk hl j hj i hi
    obtain rfl : k = 0 := Nat.le_zero.1 hk
    obtain ⟨x, hx⟩ := node_at hl
    rcases ht.parent hx with ⟨_, e1, _⟩ | ⟨p, y, hp, _⟩
    · rw [upL_step ht.down hx, e1, upL_neg (by decide)] at hj
      rw [List.mem_singleton.1 hj] at hi
      exact hi
    · omega
  | succ n ih =>
    intro k hk hl j hj i hi
    obtain ⟨x, hx⟩ := node_at hl
    have hj' := hj
    rw [upL_step ht.down hx] at hj'
    rcases List.mem_cons.1 hj' with e | h
    · rw [e] at hi; exact hi
    · rcases ht.parent hx with ⟨_, e1, _⟩ | ⟨p, y, hp, ep, hy, _⟩
      · rw [e1, upL_neg (by decide)] at h; cases h
      · rw [ep] at h
        have := ih p (by omega) (List.getElem?_eq_some_iff.1 hy).1 j h i hi
        rw [upL_step ht.down hx, ep]
        exact List.mem_cons_of_mem _ this
theorem bel_mem {k u : Int} : belT L k u = true ↔ u ∈ upL L k := by unfold belT; simp
theorem isU_iff {k : Int} : isU L B k = true ↔ ∃ j ∈ upL L k, 0 < j ∧ inI B (idAt L j) = true := by
  unfold isU
  rw [List.any_eq_true]
  constructor
  · rintro ⟨j, hj, h⟩
    rw [Bool.and_eq_true] at h
    exact ⟨j, hj, of_decide_eq_true h.1, h.2⟩
  · rintro ⟨j, hj, h0, h⟩
    exact ⟨j, hj, by rw [Bool.and_eq_true]; exact ⟨decide_eq_true h0, h⟩⟩
theorem isU_under (ht : TrL L) {k k0 : Nat} (hk : k < L.length) (h : isU L B (k0 : Int) = true) (hb : (k0 : Int) ∈ upL L (k : Int)) : isU L B (k : Int) = true := by
  obtain ⟨j, hj, h0, h1⟩ := isU_iff.1 h
  exact isU_iff.2 ⟨j, upL_sub ht k k (Nat.le_refl _) hk _ hb _ hj, h0, h1⟩
/-- What Bad leaves: all that were under it gone, and it. -/
structure BadP (B : IdSet) (l : List (List UInt8)) (id : List UInt8) (B' : IdSet) : Prop where
  get : ∀ q, getG B' q = if q = id then some () else if q ∈ l then none else getG B q
theorem idAt_inj (ht : TrL L) {j k : Int} (h1 : 0 ≤ j) (h2 : j < (L.length : Int)) (h3 : 0 ≤ k) (h4 : k < (L.length : Int)) (h : idAt L j = idAt L k) : j = k := by
  obtain ⟨x, hx⟩ := node_at (L := L) (i := j.toNat) (by omega)
  obtain ⟨y, hy⟩ := node_at (L := L) (i := k.toNat) (by omega)
  have ej : idAt L j = x.id := by unfold idAt; rw [getD_at hx]
  have ek : idAt L k = y.id := by unfold idAt; rw [getD_at hy]
  have e1 := findT_id ht hx
  have e2 := findT_id ht hy
  rw [← ej, h, ek, e2] at e1
  omega
theorem isU_bad (ht : TrL L) {k0 : Nat} {x0 : TNd} (hx0 : L[k0]? = some x0) (h0 : 0 < k0) {l : List (List UInt8)} (hl : l.Perm (undT L x0.id)) {B' : IdSet} (hb : BadP B l x0.id B') {k : Nat} (hk : k < L.length) : isU L B' (k : Int) = (isU L B (k : Int) || belT L (k : Int) (k0 : Int)) := by
  have hk0 : k0 < L.length := (List.getElem?_eq_some_iff.1 hx0).1
  have e0 := findT_id ht hx0
  have und : ∀ q : Int, 0 ≤ q → q < (L.length : Int) → (idAt L q ∈ l ↔ (k0 : Int) ∈ upL L q) := fun q q0 q1 => by
    rw [hl.mem_iff]
    unfold undT
    rw [e0, if_neg (by omega), Int.toNat_natCast]
    unfold idsN
    rw [List.mem_map]
    constructor
    · rintro ⟨j, hj, ej⟩
      obtain ⟨j1, j2⟩ := sub_mem.1 hj
      have : (j : Int) = q := idAt_inj ht (by omega) (by omega) q0 q1 (by unfold idAt; rw [Int.toNat_natCast]; exact ej)
      rw [← this]
      exact bel_mem.1 j2
    · intro h
      refine ⟨q.toNat, sub_mem.2 ⟨by omega, ?_⟩, rfl⟩
      rw [bel_mem, Int.toNat_of_nonneg q0]
      exact h
  have hm := upL_mem ht.down k k (Nat.le_refl _) hk
  rw [Bool.eq_iff_iff, Bool.or_eq_true, isU_iff, isU_iff, bel_mem]
  constructor
  · rintro ⟨j, hj, j0, j1⟩
    obtain ⟨a, b⟩ := hm j hj
    unfold inI at j1
    rw [hb.get] at j1
    by_cases e : idAt L j = x0.id
    · right
      have : j = (k0 : Int) := idAt_inj ht a b (by omega) (by omega) (by rw [e, idAt_at hx0])
      rw [← this]; exact hj
    · rw [if_neg e] at j1
      by_cases e2 : idAt L j ∈ l
      · rw [if_pos e2] at j1; cases j1
      · rw [if_neg e2] at j1
        exact Or.inl ⟨j, hj, j0, j1⟩
  · rintro (⟨j, hj, j0, j1⟩ | h)
    · obtain ⟨a, b⟩ := hm j hj
      by_cases e : idAt L j ∈ l
      · refine ⟨k0, upL_sub ht k k (Nat.le_refl _) hk _ hj _ ((und j a b).1 e), by omega, ?_⟩
        unfold inI
        rw [hb.get, if_pos (idAt_at hx0)]
        rfl
      · refine ⟨j, hj, j0, ?_⟩
        unfold inI
        rw [hb.get]
        by_cases e2 : idAt L j = x0.id
        · rw [if_pos e2]; rfl
        · rw [if_neg e2, if_neg e]; exact j1
    · refine ⟨k0, h, by omega, ?_⟩
      unfold inI
      rw [hb.get, if_pos (idAt_at hx0)]
      rfl
/-- Bad's effect, as all see it. -/
def MarkP (L : List TNd) (B : IdSet) (k0 : Nat) (B' : IdSet) : Prop := ∀ k : Nat, k < L.length → isU L B' (k : Int) = (isU L B (k : Int) || belT L (k : Int) (k0 : Int))
theorem MarkP.same (ht : TrL L) {k0 : Nat} (h : isU L B (k0 : Int) = true) : MarkP L B k0 B := fun k hk => by
  cases hb : belT L (k : Int) (k0 : Int) with
  | false => rw [Bool.or_false]
  | true => rw [Bool.or_true]; exact isU_under ht hk h (bel_mem.1 hb)
-- ---------------------------------------------------------------- the heap
structure MkI (L : List TNd) (B Mt : IdSet) (d : Array Rk) : Prop where
  heap : HeapP overK d.size d
  rk : ∀ r ∈ d.toList, ∃ (k : Nat) (x : TNd), L[k]? = some x ∧ x.id = r.id.1 ∧ x.work = r.work
  met : ∀ q, inI Mt q = true → 0 ≤ findT L q ∧ (isM L B q = false → ∃ r ∈ d.toList, r.id.1 = q)
  sz : d.size ≤ Mt.length
variable {Mt : IdSet} {d : Array Rk}
theorem MkI.none (L : List TNd) : MkI L [] [] #[] := by
  refine ⟨fun k h0 h1 => absurd h1 (Nat.not_lt_zero _), fun r h => ?_, fun q h => ?_, Nat.le_refl _⟩
  · cases h
  · cases h
theorem MkI.add (h : MkI L B Mt d) (ht : TrL L) (hh : Hung L) {y : TNd} (ht' : TrL (L ++ [y])) (hh' : Hung (L ++ [y])) : MkI (L ++ [y]) B Mt d := by
  refine ⟨h.heap, fun r hr => ?_, fun q hq => ?_, h.sz⟩
  · obtain ⟨k, x, hx, e1, e2⟩ := h.rk r hr
    exact ⟨k, x, by rw [List.getElem?_append_left (List.getElem?_eq_some_iff.1 hx).1]; exact hx, e1, e2⟩
  · obtain ⟨a, b⟩ := h.met q hq
    refine ⟨by rw [findT_push y a]; exact a, fun hm => b ?_⟩
    rw [isM_push ht hh ht' hh' a] at hm
    exact hm
theorem MkI.bad (h : MkI L B Mt d) (ht : TrL L) (hh : Hung L) {k0 : Nat} {B' : IdSet} (hb : MarkP L B k0 B') : MkI L B' Mt d := by
  refine ⟨h.heap, h.rk, fun q hq => ?_, h.sz⟩
  obtain ⟨a, b⟩ := h.met q hq
  refine ⟨a, fun hm => b ?_⟩
  obtain ⟨k, x, _, hx, rfl⟩ := found a
  have hk : k < L.length := (List.getElem?_eq_some_iff.1 hx).1
  rw [isM_at ht hh hx] at hm ⊢
  rw [hb k hk] at hm
  exact (Bool.or_eq_false_iff.1 hm).1
theorem MkI.pop (h : MkI L B Mt d) {d' : Array Rk} (hp : d.toList.Perm (d[0]! :: d'.toList)) (hm : isM L B d[0]!.id.1 = true) (hh : HeapP overK d'.size d') : MkI L B Mt d' := by
  refine ⟨hh, fun r hr => h.rk r (hp.mem_iff.2 (List.mem_cons_of_mem _ hr)), fun q hq => ?_, ?_⟩
  · obtain ⟨a, b⟩ := h.met q hq
    refine ⟨a, fun hf => ?_⟩
    obtain ⟨r, hr, e⟩ := b hf
    rcases List.mem_cons.1 (hp.mem_iff.1 hr) with rfl | h2
    · rw [e, hf] at hm; cases hm
    · exact ⟨r, h2, e⟩
  · have := hp.length_eq
    have := h.sz
    simp only [Array.length_toList, List.length_cons] at *
    omega
theorem MkI.push (h : MkI L B Mt d) {k : Nat} {x : TNd} (ht : TrL L) (hx : L[k]? = some x) {r : Rk} (h1 : r.id.1 = x.id) (h2 : r.work = x.work) {d' : Array Rk} (hp : d'.toList.Perm (r :: d.toList)) (hh : HeapP overK d'.size d') {Mt' : IdSet} (hm : ∀ q, inI Mt' q = true → q = x.id ∨ inI Mt q = true) (hl : Mt'.length = Mt.length + 1) : MkI L B Mt' d' := by
  refine ⟨hh, fun s hs => ?_, fun q hq => ?_, ?_⟩
  · rcases List.mem_cons.1 (hp.mem_iff.1 hs) with rfl | h3
    · exact ⟨k, x, hx, h1.symm, h2.symm⟩
    · exact h.rk s h3
  · rcases hm q hq with rfl | h3
    · exact ⟨by rw [findT_id ht hx]; omega, fun _ => ⟨r, hp.mem_iff.2 List.mem_cons_self, h1⟩⟩
    · obtain ⟨a, b⟩ := h.met q h3
      refine ⟨a, fun hf => ?_⟩
      obtain ⟨s, hs, e⟩ := b hf
      exact ⟨s, hp.mem_iff.2 (List.mem_cons_of_mem _ hs), e⟩
  · have := hp.length_eq
    have := h.sz
    simp only [Array.length_toList, List.length_cons] at *
    omega
/-- The work and the id by which one is held against others. -/
def rnkT (L : List TNd) (id : OH) : Rk := ⟨(ofT L id.1).2.2.1, id⟩
/-- Which is best: not marked, and over all others that are not. -/
structure BestP (L : List TNd) (B : IdSet) (top : OH) : Prop where
  has : 0 ≤ findT L top.1
  free : isM L B top.1 = false
  over : ∀ q : OH, 0 ≤ findT L q.1 → isM L B q.1 = false → q = top ∨ overK (rnkT L top) (rnkT L q) = true
theorem rk_rnk (ht : TrL L) {r : Rk} (h : ∃ (k : Nat) (x : TNd), L[k]? = some x ∧ x.id = r.id.1 ∧ x.work = r.work) : r = rnkT L r.id ∧ 0 ≤ findT L r.id.1 := by
  obtain ⟨k, x, hx, e1, e2⟩ := h
  refine ⟨?_, by rw [← e1, findT_id ht hx]; omega⟩
  unfold rnkT
  rw [← e1, ofT_at ht hx, e2]
theorem MkI.best (h : MkI L B Mt d) (ht : TrL L) (hall : ∀ q, 0 ≤ findT L q → inI Mt q = true) (h0 : 0 < d.size) (hf : isM L B d[0]!.id.1 = false) : BestP L B d[0]!.id := by
  have hm0 : d[0]! ∈ d.toList := by rw [getElem!_pos d 0 h0]; simp
  obtain ⟨e0, f0⟩ := rk_rnk ht (h.rk _ hm0)
  refine ⟨f0, hf, fun q hq hfq => ?_⟩
  obtain ⟨r, hr, e⟩ := (h.met q.1 (hall _ hq)).2 hfq
  have er : r.id = q := Subtype.ext e
  obtain ⟨e1, _⟩ := rk_rnk ht (h.rk r hr)
  obtain ⟨i, hi, ei⟩ := List.mem_iff_getElem.1 hr
  have hi' : i < d.size := by simpa using hi
  have hno := h.heap.top swoK i hi'
  have ei' : d[i]! = r := by rw [getElem!_pos d i hi']; simpa using ei
  rw [ei'] at hno
  cases ho : overK d[0]! r with
  | true =>
    right
    rw [← e0, ← er, ← e1]
    exact ho
  | false =>
    left
    have := overK_total hno ho
    rw [← er]
    exact Subtype.ext this.2
theorem sub_all {α : Type} [DecidableEq α] : ∀ (l m : List α), l.Nodup → (∀ x ∈ l, x ∈ m) → m.length ≤ l.length → ∀ x ∈ m, x ∈ l
  | [], m, _, _, hl, x, hx => by
    have : m = [] := List.length_eq_zero_iff.1 (Nat.le_zero.1 hl)
    rw [this] at hx; cases hx
  | a :: l, m, hn, hs, hl, x, hx => by
    have ha : a ∈ m := hs a List.mem_cons_self
    obtain ⟨hna, hnl⟩ := List.nodup_cons.1 hn
    by_cases e : x = a
    · rw [e]; exact List.mem_cons_self
    · refine List.mem_cons_of_mem _ (sub_all l (m.erase a) hnl (fun y hy => ?_) ?_ x ((List.mem_erase_of_ne e).2 hx))
      · exact (List.mem_erase_of_ne (fun e => hna (by rw [← e]; exact hy))).2 (hs y (List.mem_cons_of_mem _ hy))
      · rw [List.length_erase_of_mem ha]
        simp only [List.length_cons] at hl
        omega
theorem inB_iff {q : List UInt8} : inI B q = true ↔ q ∈ B.map (·.1) := by
  unfold inI
  constructor
  · intro h
    obtain ⟨b, hb⟩ := Option.isSome_iff_exists.1 h
    exact List.mem_map.2 ⟨(q, b), getG_mem hb, rfl⟩
  · intro h
    cases hg : getG B q with
    | some b => rfl
    | none =>
      obtain ⟨x, hx, e⟩ := List.mem_map.1 h
      exact absurd e (getG_ne hg x hx)
theorem MkI.full (h : MkI L B Mt d) (ha : Mt.Pairwise fun x y => x.1 ≠ y.1) (hl : Mt.length = L.length) : ∀ q, 0 ≤ findT L q → inI Mt q = true := fun q hq => by
  obtain ⟨k, x, _, hx, rfl⟩ := found hq
  refine inB_iff.2 (sub_all (Mt.map (·.1)) (L.map (·.id)) ?_ (fun y hy => ?_) (by rw [List.length_map, List.length_map, hl]; exact Nat.le_refl _) x.id (List.mem_map.2 ⟨x, List.mem_of_getElem? hx, rfl⟩))
  · rw [List.nodup_iff_pairwise_ne, List.pairwise_map]
    exact ha
  · obtain ⟨j, z, _, hz, e⟩ := found (h.met y (inB_iff.2 hy)).1
    exact List.mem_map.2 ⟨z, List.mem_of_getElem? hz, e⟩
theorem start_free (ht : TrL L) {x : TNd} (hx : L[0]? = some x) : isM L B x.id = false := by
  unfold isM
  rw [ofT_at ht hx]
  rcases ht.parent hx with ⟨_, _, e⟩ | ⟨p, _, hp, _⟩
  · show isW L B x.height.toNat x.id = false
    rw [e]; rfl
  · omega
end
end Go.Proofs.YtdhcjaflbfpalaaGreatDoor.Sha

/-
  A whole element stored into a row of elements of one's own. Conditions: those that it states.
-/
namespace Go.Proofs.YtdhcjaflbfpalaaGreatDoor.Sha
open Go Go.RowKit
theorem flat_set {k : Nat} : ∀ (L : List (List Value)) (i : Nat) (x : List Value), AllK k L → i < L.length → (L.set i x).flatten = L.flatten.take (i * k) ++ x ++ L.flatten.drop (i * k + k)
  | [], i, x, _, h => absurd h (by simp)
  | z :: L, 0, x, ha, h => by
    have hz : z.length = k := ha z List.mem_cons_self
    show x ++ L.flatten = (z ++ L.flatten).take (0 * k) ++ x ++ (z ++ L.flatten).drop (0 * k + k)
    rw [Nat.zero_mul, List.take_zero, List.nil_append, Nat.zero_add, ← hz, List.drop_left]
  | z :: L, i + 1, x, ha, h => by
    have hz : z.length = k := ha z List.mem_cons_self
    show z ++ (L.set i x).flatten = (z ++ L.flatten).take ((i + 1) * k) ++ x ++ (z ++ L.flatten).drop ((i + 1) * k + k)
    rw [flat_set L i x (fun y hy => ha y (List.mem_cons_of_mem _ hy)) (by simpa using h), show (i + 1) * k = z.length + i * k by rw [hz, Nat.add_mul, Nat.one_mul, Nat.add_comm], List.take_length_add_append, Nat.add_assoc, List.drop_length_add_append]
    simp only [List.append_assoc]
theorem AllK.set {k : Nat} {L : List (List Value)} (h : AllK k L) (i : Nat) {x : List Value} (hx : x.length = k) : AllK k (L.set i x) := fun y hy => by
  rcases List.mem_or_eq_of_mem_set hy with h1 | rfl
  · exact h y h1
  · exact hx
/-- A whole element is stored. -/
theorem wp_store_rw {P : Program} {op : Oper} {a : Act} {w : World} {K : Act → World → Prop} {Q : Exit → Act → World → Prop} (ty : TypeId) (x y : Operand) (ho : op.op = .store ty x y)
    (g i base n cap k : Nat) (e : TypeId) (L : List (List Value)) (c : List Value) (hx : a.eval x = .pointer (some ⟨g, i * k, none⟩)) (hy : a.eval y = .agg c.toArray) (hc : c.length = k) (h1 : ∀ u ∈ c, u.oneCell' = true) (hi : (P.info? ty).map (·.size) = some k)
    (hown : RwOwn k e base w (.slice (some ⟨g, 0, none⟩) n cap) L) (hj : i < n)
    (h : ∀ w', RwOwn k e base w' (.slice (some ⟨g, 0, none⟩) n cap) (L.set i c) → w.grownBy w' (some g) → K (a.put op.dst undef) w') : op.wp P a w K Q := by
  obtain ⟨ho1, hall⟩ := hown
  have hn : n = L.length := by
    rcases ho1.2 with ⟨h', _⟩ | ⟨g', cap', cur, h', _⟩
    · simp at h'
    · simp only [Value.slice.injEq] at h'; exact h'.2.1
  rw [← hn] at ho1
  rcases ho1.2 with ⟨h', _⟩ | ⟨g', cap', cur, h', hb, hg, hnc, hcm, hcs, htake⟩
  · simp at h'
  simp only [Value.slice.injEq, Option.some.injEq, Addr.mk.injEq, and_true, true_and] at h'
  obtain ⟨rfl, rfl⟩ := h'
  obtain ⟨l, hl⟩ : ∃ l, l = cur.toList := ⟨_, rfl⟩
  have hll : l.length = cap * k := by rw [hl, Array.length_toList, hcs]
  have hik : i * k + k ≤ n * k := by
    rw [← Nat.succ_mul]
    exact Nat.mul_le_mul_right _ hj
  have hnk : n * k ≤ cap * k := Nat.mul_le_mul_right _ hnc
  have hjc : i * k + k ≤ l.length := by rw [hll]; omega
  have hsplit : l = l.take (i * k) ++ (l.drop (i * k)).take k ++ l.drop (i * k + k) := by
    rw [List.append_assoc, ← List.drop_drop, List.take_append_drop, List.take_append_drop]
  rw [← hl] at htake
  refine wp_store_part ty x y ho g (i * k) (l.take (i * k)) ((l.drop (i * k)).take k) (l.drop (i * k + k)) c e (.agg c.toArray) hx hy rfl (by rw [List.length_take]; omega) (by rw [List.length_take, List.length_drop, hc]; omega) (by rw [← hsplit, hl, Array.toArray_toList]; exact hg) (by rw [hc]; exact hi) h1 ?_
  intro w' q1 q2
  have hls : (L.set i c).length = n := by rw [List.length_set, hn]
  refine h w' ⟨?_, hall.set i hc⟩ q2
  rw [hls]
  refine ⟨by rw [flatten_length _ (hall.set i hc), hls], .inr ⟨g, cap, _, rfl, hb, q1, hnc, hcm, ?_, ?_⟩⟩
  · simp only [List.size_toArray, List.length_append, List.length_take, List.length_drop, hc]
    omega
  · rw [flat_set L i c hall (by omega), ← htake]
    have h4 : (l.take (i * k) ++ c).length = i * k + k := by
      rw [List.length_append, List.length_take, hc]
      omega
    rw [List.toList_toArray, List.take_append, List.take_of_length_le (by rw [h4]; omega), h4, List.take_take, Nat.min_eq_left (by omega), List.drop_take]
theorem RwOwn.head' {k : Nat} {T : TypeId} {base : Nat} {w : World} {g m cap : Nat} {L : List (List Value)} {x : List Value} (h : RwOwn k T base w (.slice (some ⟨g, 0, none⟩) (m + 1) cap) (L ++ [x])) : RwOwn k T base w (.slice (some ⟨g, 0, none⟩) m cap) L := by
  obtain ⟨h1, h2⟩ := h
  have hL : AllK k L := fun y hy => h2 y (List.mem_append_left _ hy)
  have hx : x.length = k := h2 x (List.mem_append_right _ List.mem_cons_self)
  rcases h1.2 with ⟨h', _⟩ | ⟨g', cap', cur, h', hb, hg, hnc, hcm, hcs, htake⟩
  · simp at h'
  · simp only [Value.slice.injEq, Option.some.injEq, Addr.mk.injEq, and_true, true_and, List.length_append, List.length_singleton] at h'
    obtain ⟨rfl, hm, rfl⟩ := h'
    have hm' : m = L.length := by omega
    subst hm'
    refine ⟨⟨flatten_length _ hL, .inr ⟨g, cap, cur, rfl, hb, hg, by simp at hnc; omega, hcm, hcs, ?_⟩⟩, hL⟩
    have e : cur.toList.take (L.length * k) = (cur.toList.take ((L ++ [x]).length * k)).take (L.length * k) := by
      rw [List.take_take, Nat.min_eq_left (Nat.mul_le_mul_right _ (by simp))]
    rw [e, htake, flatten_snoc, List.take_append_of_le_length (by rw [flatten_length _ hL]; exact Nat.le_refl _), List.take_of_length_le (by rw [flatten_length _ hL]; exact Nat.le_refl _)]
end Go.Proofs.YtdhcjaflbfpalaaGreatDoor.Sha

/-
  Marks in memory: their box, the two sets of ids, the row of ranks. No conditions.
-/
namespace Go.Proofs.YtdhcjaflbfpalaaGreatDoor.Sha
open Go Go.RowKit
def unV : Unit → Value := fun _ => .agg #[]
theorem mty_ids : MTy (List UInt8) Unit 26 96 74 hK unV (fun h => h.length = 32) () :=
  ⟨cm_hash_law, by kernel_rfl, hash_keyOf, hK_inj, fun w => by kernel_rfl⟩
def overV : Value := .func (.func 33) #[] #[]
def mkL (tb bm mm : Nat) (lv : Value) : List Value := [.pointer (some ⟨tb, 0, none⟩), .map (some bm), .map (some mm), lv, overV]
structure MkAt (w : World) (base b tb bm mm : Nat) (lv : Value) (B Mt : IdSet) (d : Array Rk) : Prop where
  box : w.heap[b]? = some (.cells (mkL tb bm mm lv).toArray 83 (0, 0))
  bad : MpAt hK unV (fun h => h.length = 32) w bm B
  met : MpAt hK unV (fun h => h.length = 32) w mm Mt
  row : RwOwn 33 78 base w lv (d.toList.map rkL)
  ne : bm ≠ mm
  lo : base ≤ b ∧ base ≤ bm ∧ base ≤ mm
/-- What the heap's calls leave. -/
def HtF (base : Nat) (w : World) (j : Nat) : Prop := j < base ∨ ∀ cs T fr, w.heap[j]? = some (.cells cs T fr) → T ≠ 83 ∧ T ≠ 78
def HtR (base : Nat) (w w' : World) : Prop := Kps (HtF base w) w w'
/-- What the calls of the marks leave. -/
def BtF (base bm mm : Nat) (w : World) (j : Nat) : Prop := j < base ∨ (j ≠ bm ∧ j ≠ mm ∧ ∀ cs T fr, w.heap[j]? = some (.cells cs T fr) → T ≠ 83 ∧ T ≠ 78)
def BtR (base bm mm : Nat) (w w' : World) : Prop := Kps (BtF base bm mm w) w w'
section
variable {w w' w'' : World} {base b tb bm mm : Nat} {lv : Value} {B Mt : IdSet} {d : Array Rk}
theorem HtR.refl : HtR base w w := Kps.refl _ _
theorem HtR.trans (h : HtR base w w') (k : HtR base w' w'') : HtR base w w'' :=
  ⟨k.os.trans h.os, k.tape.trans h.tape, k.output.trans h.output, Nat.le_trans h.size k.size, fun j hj hf => by
    have e := h.block j hj hf
    rw [k.block j (Nat.lt_of_lt_of_le hj h.size) (by unfold HtF; rw [e]; exact hf), e]⟩
theorem HtR.below (hb : Below w.heap.size w w') : HtR base w w' := Kps.new hb
theorem BtR.refl : BtR base bm mm w w := Kps.refl _ _
theorem BtR.trans (h : BtR base bm mm w w') (k : BtR base bm mm w' w'') : BtR base bm mm w w'' :=
  ⟨k.os.trans h.os, k.tape.trans h.tape, k.output.trans h.output, Nat.le_trans h.size k.size, fun j hj hf => by
    have e := h.block j hj hf
    rw [k.block j (Nat.lt_of_lt_of_le hj h.size) (by unfold BtF; rw [e]; exact hf), e]⟩
theorem BtR.below (hb : Below w.heap.size w w') : BtR base bm mm w w' := Kps.new hb
theorem HtR.bt (h : HtR base w w') : BtR base bm mm w w' := Kps.mono h fun j _ hf => hf.imp id fun h => h.2.2
theorem BtR.grown {q : Nat} (hg : w.grownBy w' (some q)) (hb : base ≤ q) (hq : q = bm ∨ q = mm) : BtR base bm mm w w' := Kps.grown hg fun j _ hf e => by
  have e' : j = q := Option.some.inj e
  rcases hf with h | ⟨h1, h2, _⟩
  · omega
  · rcases hq with h | h
    · exact h1 (e'.trans h)
    · exact h2 (e'.trans h)
theorem Kps.down {F : Nat → Prop} {B : Nat} (h : Kps F w w') (hb : B ≤ w.heap.size) (hf : ∀ j, j < B → F j) : Below B w w' :=
  ⟨h.os, h.tape, h.output, h.size, fun k hk => h.block k (Nat.lt_of_lt_of_le hk hb) (hf k hk)⟩
theorem BtR.old (h : BtR base bm mm w w') (hb : base ≤ w.heap.size) : Below base w w' := Kps.down h hb fun _ hj => Or.inl hj
theorem HtR.old (h : HtR base w w') (hb : base ≤ w.heap.size) : Below base w w' := Kps.down h hb fun _ hj => Or.inl hj
theorem BtR.rowF {g : Nat} {cs : Array Value} {T : TypeId} {fr : Nat × Nat} (hc : w.heap[g]? = some (.cells cs T fr)) (h1 : T ≠ 83) (h2 : T ≠ 78) (hm : g ≠ bm) (hn : g ≠ mm) : BtF base bm mm w g :=
  Or.inr ⟨hm, hn, fun cs' T' fr' h => by
    have e := (Obj.cells.inj (Option.some.inj (hc.symm.trans h))).2.1
    rw [← e]; exact ⟨h1, h2⟩⟩
theorem HtR.rowF {g : Nat} {cs : Array Value} {T : TypeId} {fr : Nat × Nat} (hc : w.heap[g]? = some (.cells cs T fr)) (h1 : T ≠ 83) (h2 : T ≠ 78) : HtF base w g :=
  Or.inr fun cs' T' fr' h => by
    have e := (Obj.cells.inj (Option.some.inj (hc.symm.trans h))).2.1
    rw [← e]; exact ⟨h1, h2⟩
theorem HtR.mapF {α β : Type} {kf : α → Value} {vf : β → Value} {ok : α → Prop} {q : Nat} {l : List (α × β)} (h : MpAt kf vf ok w q l) : HtF base w q :=
  Or.inr fun cs T fr hc => absurd rfl (h.ne hc)
theorem BtR.mapF {α β : Type} {kf : α → Value} {vf : β → Value} {ok : α → Prop} {q : Nat} {l : List (α × β)} (h : MpAt kf vf ok w q l) (h1 : q ≠ bm) (h2 : q ≠ mm) : BtF base bm mm w q :=
  Or.inr ⟨h1, h2, fun cs T fr hc => absurd rfl (h.ne hc)⟩
theorem own_row {bs n k : Nat} {T : TypeId} {v : Value} {xs : List Value} (ho : w.ownsRow bs T k v n xs) {g : Nat} (hg : v.ownBlock = some g) : ∃ cs, w.heap[g]? = some (.cells cs T (0, 0)) := by
  rcases ho.2 with ⟨rfl, _⟩ | ⟨q, cap, cur, rfl, _, hq, _⟩
  · cases hg
  · cases hg
    exact ⟨cur, hq⟩
theorem MpAt.ne' {α β : Type} {kf : α → Value} {vf : β → Value} {ok : α → Prop} {q : Nat} {l : List (α × β)} (h : MpAt kf vf ok w q l) {g : Nat} {cs : Array Value} {T : TypeId} {fr : Nat × Nat} (hc : w.heap[g]? = some (.cells cs T fr)) : g ≠ q := fun e => h.ne hc e
theorem MkAt.kps {F : Nat → Prop} (h : MkAt w base b tb bm mm lv B Mt d) (hk : Kps F w w') (h1 : F b) (h2 : F bm) (h3 : F mm) (h4 : ∀ g, lv.ownBlock = some g → F g) : MkAt w' base b tb bm mm lv B Mt d :=
  ⟨row_kps h.box hk h1, h.bad.kps hk h2, h.met.kps hk h3, ⟨own_kpsB h.row.1 hk h4, h.row.2⟩, h.ne, h.lo⟩
theorem MkAt.below (h : MkAt w base b tb bm mm lv B Mt d) (hb : Below w.heap.size w w') : MkAt w' base b tb bm mm lv B Mt d :=
  ⟨row_below h.box hb, h.bad.below hb, h.met.below hb, h.row.keep hb, h.ne, h.lo⟩
theorem MkAt.rowF (h : MkAt w base b tb bm mm lv B Mt d) {g : Nat} {cs : Array Value} {T : TypeId} {fr : Nat × Nat} (hc : w.heap[g]? = some (.cells cs T fr)) (h1 : T ≠ 83) (h2 : T ≠ 78) : BtF base bm mm w g :=
  BtR.rowF hc h1 h2 (h.bad.ne' hc) (h.met.ne' hc)
theorem MkAt.ownF (h : MkAt w base b tb bm mm lv B Mt d) {bs n k : Nat} {T : TypeId} {v : Value} {xs : List Value} (ho : w.ownsRow bs T k v n xs) (h1 : T ≠ 83) (h2 : T ≠ 78) : ∀ g, v.ownBlock = some g → BtF base bm mm w g := fun g hg => by
  obtain ⟨cs, hc⟩ := own_row ho hg
  exact h.rowF hc h1 h2
/-- The tree under the marks stays. -/
theorem MkAt.tree {tbase tm : Nat} {M : List CNd} (h : MkAt w base b tb bm mm lv B Mt d) (ht : CtAt w tbase tb tm M) (h1 : tm ≠ bm) (h2 : tm ≠ mm) (hk : BtR base bm mm w w') : CtAt w' tbase tb tm M := by
  refine ht.kps hk (h.rowF ht.box (by decide) (by decide)) (BtR.mapF ht.mp h1 h2) fun c hc => ?_
  obtain ⟨i, hi⟩ := ht.at_ hc
  exact ⟨h.rowF (ht.node i c hi) (by decide) (by decide), h.ownF (ht.kid i c hi).1 (by decide) (by decide)⟩
/-- The marks stay as the tree grows. -/
theorem MkAt.grow {tbase tm : Nat} {M : List CNd} (h : MkAt w base b tb bm mm lv B Mt d) (ht : CtAt w tbase tb tm M) (h1 : tm ≠ bm) (h2 : tm ≠ mm) (hk : Kps (CF tm M) w w') : MkAt w' base b tb bm mm lv B Mt d := by
  have mf : ∀ {q : Nat} {l : IdSet}, MpAt hK unV (fun h => h.length = 32) w q l → q ≠ tm → CF tm M q := fun {q l} hm hq => ⟨hq, fun c hc => by
    obtain ⟨i, hi⟩ := ht.at_ hc
    refine ⟨fun e => hm.ne (ht.node i c hi) e.symm, fun e => ?_⟩
    obtain ⟨cs, hcs⟩ := own_row (ht.kid i c hi).1 e
    exact hm.ne hcs rfl⟩
  exact h.kps hk (ht.rowF h.box (by decide) (by decide)) (mf h.bad (fun e => h1 e.symm)) (mf h.met (fun e => h2 e.symm)) (ht.ownF h.row.1 (by decide) (by decide))
theorem MkAt.cells (h : MkAt w base b tb bm mm lv B Mt d) : w.cell? ⟨b, 0, none⟩ = some (.pointer (some ⟨tb, 0, none⟩)) ∧ w.cell? ⟨b, 1, none⟩ = some (.map (some bm)) ∧ w.cell? ⟨b, 2, none⟩ = some (.map (some mm)) ∧ w.cell? ⟨b, 3, none⟩ = some lv ∧ w.cell? ⟨b, 4, none⟩ = some overV := by
  refine ⟨?_, ?_, ?_, ?_, ?_⟩ <;> (rw [cell_of_row _ _ _ _ _ _ h.box]; rfl)
theorem MkAt.lt (h : MkAt w base b tb bm mm lv B Mt d) : b < w.heap.size := (Array.getElem?_eq_some_iff.1 h.box).1
/-- The row of ranks is another block than the box. -/
theorem MkAt.rowne (h : MkAt w base b tb bm mm lv B Mt d) : lv.ownBlock ≠ some b := own_ne' h.row.1 h.box (by decide)
theorem rk_at {i : Nat} (h : i < d.size) : (d.toList.map rkL)[i]? = some (rkL d[i]!) := by
  rw [List.getElem?_map, getElem!_pos d i h]
  simp [h]
theorem rk_len : (d.toList.map rkL).length = d.size := by simp
theorem rk_set {i : Nat} {x : Rk} : (d.toList.map rkL).set i (rkL x) = (d.setIfInBounds i x).toList.map rkL := by simp
/-- What lies in the row of ranks is a slice of so many. -/
theorem MkAt.shape (h : MkAt w base b tb bm mm lv B Mt d) (h0 : 0 < d.size) : ∃ g cap, lv = .slice (some ⟨g, 0, none⟩) d.size cap ∧ base ≤ g ∧ g ≠ b ∧ g ≠ bm ∧ g ≠ mm ∧ d.size ≤ cap := by
  rcases h.row.1.2 with ⟨rfl, h2⟩ | ⟨q, cap, cur, rfl, h1, h2, h3, _⟩
  · rw [rk_len] at h2; omega
  · rw [rk_len]
    rw [rk_len] at h3
    refine ⟨q, cap, rfl, h1, fun e => ?_, h.bad.ne' h2, h.met.ne' h2, h3⟩
    subst e
    have := (Obj.cells.inj (Option.some.inj (h2.symm.trans h.box))).2.1
    exact absurd this (by decide)
theorem rkL_get {g o : Nat} {r : Rk} (h : w.rangeAt g o (rkL r)) : w.cell? ⟨g, o, none⟩ = some (.int .u64 (r.work : Int)) ∧ w.rangeAt g (o + 1) (r.id.1.map bV) := by
  refine ⟨?_, fun j v hv => ?_⟩
  · have := h 0 _ rfl
    simpa using this
  · have := h (j + 1) v (by show (Value.int .u64 (r.work : Int) :: r.id.1.map bV)[j + 1]? = some v; rw [List.getElem?_cons_succ]; exact hv)
    rw [show o + 1 + j = o + (j + 1) by omega]
    exact this
end
end Go.Proofs.YtdhcjaflbfpalaaGreatDoor.Sha
