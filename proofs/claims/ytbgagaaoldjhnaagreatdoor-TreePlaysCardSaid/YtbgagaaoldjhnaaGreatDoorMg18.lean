/-
  Texts of this proof joined into one file: CtUnder, RefLess. What each holds, and under which conditions, its own first sentence tells.
-/
import Derived.Test.YtbgagaaoldjhnaaGreatDoorMg14
import Derived.Test.YtbgagaaoldjhnaaGreatDoorMg13
import Derived.Test.YtbgagaaoldjhnaaGreatDoorMg17
import Derived.Test.YtbgagaaoldjhnaaGreatDoorMg09
/-
  The program's tree: what is under an id, in the order of digests. Nothing that was there turns. Conditions: the tree lies where it should, nodes as the model has them.
-/
namespace Go.Proofs.YtbgagaaoldjhnaaGreatDoor.Sha
open Go Go.RowKit
def undT (L : List TNd) (id : List UInt8) : List (List UInt8) := if findT L id < 0 then [] else idsN L (subI L (findT L id).toNat)
def UnPost (L : List TNd) (id : List UInt8) (w : World) (e : Ending) (w' : World) : Prop :=
  Below w.heap.size w w' ∧ ∃ (v : Value) (l : List (List UInt8)), e = .returned v ∧ HsAt w' v l ∧ l.Perm (undT L id) ∧ l.Pairwise fun x y => lessL y x = false
def rowsO (M : List CNd) (O : List Nat) : List (List Value) := O.map fun o : Nat => [nptr (cnP M (o : Int))]
theorem yieldsIf_cutS_h {P : Program} {ops : Array Oper} {S : World → Prop} {op : Oper} {a : Act} (hw : Region.wanted op (yielded ops a.tmps) = true) (t : TypeId) (x hi : Operand) (ho : op.op = .slice t x none (some hi) none) (e : TypeId) (s : Nat) (hu : P.underlying t = some (.slice e)) (hsz : (P.info? e).map (·.size) = some s)
    (sp : Option Addr) (n cap r : Nat) (hx : a.eval x = .slice sp n cap) (hr : a.eval hi = .int .i64 r) (h2 : r ≤ cap) (v : Value) (hv : sliced sp 0 r cap s = v) : YieldsIf P ops S op v a :=
  .inl ⟨hw, fun w _ => by
    unfold execOp
    simp [ho, hx, hr, run_cutS_h (w := w) t e s sp n cap r hu hsz h2, Result.andThen, hv]⟩
theorem own_unlike {w : World} {base base' n n' k k' : Nat} {T T' : TypeId} {v v' : Value} {xs xs' : List Value} (h : w.ownsRow base T k v n xs) (h' : w.ownsRow base' T' k' v' n' xs') (hT : T ≠ T') : v.ownBlock = none ∨ v.ownBlock ≠ v'.ownBlock := by
  rcases h.2 with ⟨rfl, _⟩ | ⟨g, cap, cur, rfl, _, hc, _⟩
  · exact .inl rfl
  · refine .inr fun e => ?_
    exact own_ne' h' hc hT.symm e.symm
def UdInv (M : List CNd) (k gi : Nat) (w : World) (n : Nat) (vs : Value) (wr : World) : Prop :=
  ∃ (D O : List Nat) (ov iv : Value), ov = vs ∧ UnI (ndM M) k D O ∧ D.length + n = (subI (ndM M) k).length ∧ RwOwn 1 70 w.heap.size wr ov (rowsO M O) ∧ HsOwn w.heap.size wr iv (idsN (ndM M) D) ∧ wr.heap[gi]? = some (.cells #[iv] 42 (0, 0)) ∧ Below w.heap.size w wr
theorem RwOwn.head {k : Nat} {T : TypeId} {base : Nat} {w : World} {g m cap : Nat} {L : List (List Value)} {x : List Value} (h : RwOwn k T base w (.slice (some ⟨g, 0, none⟩) (m + 1) cap) (L ++ [x])) : RwOwn k T base w (.slice (some ⟨g, 0, none⟩) m cap) L := by
  have ha : AllK k L := fun y hy => h.2 y (List.mem_append_left _ hy)
  have hl := flatten_length L ha
  refine ⟨⟨hl, ?_⟩, ha⟩
  rcases h.1.2 with ⟨hv, _⟩ | ⟨g', cap', cur, hv, hb, hc, hn, hm, hs, ht⟩
  · cases hv
  · have e := (Value.slice.inj hv).2.1
    have e2 := (Value.slice.inj hv).1
    have e3 := (Value.slice.inj hv).2.2
    rw [List.length_append, List.length_singleton] at e
    have eg : g = g' := congrArg Addr.block (Option.some.inj e2)
    subst eg
    subst e3
    rw [List.length_append, List.length_singleton] at hn ht
    refine .inr ⟨g, cap, cur, by rw [show L.length = m by omega], hb, hc, by omega, hm, hs, ?_⟩
    have e5 : L.flatten.take (L.length * k) = L.flatten := List.take_of_length_le (by rw [hl]; exact Nat.le_refl _)
    have h1 := congrArg (List.take (L.length * k)) ht
    rw [List.take_take, Nat.min_eq_left (Nat.mul_le_mul_right _ (Nat.le_succ _)), List.flatten_append, List.take_append_of_le_length (by rw [hl]; exact Nat.le_refl _), e5] at h1
    exact h1
theorem wpList_slice_ptr {P : Program} {ops : Array Oper} {rest : List Oper} {o : Oper} {a : Act} {w : World} {Q : Exit → Act → World → Prop} (hg : o.guard = none) (t e : TypeId) (x : Operand) (ho : o.op = .buildSlice t 1 #[(0, x)]) (y : Option Addr) (hx : a.eval x = .pointer y)
    (hu : P.underlying t = some (.slice e)) (i : TypeInfo) (z : Value) (hi : P.info? e = some i) (hz : i.zero = some z) (hs : i.size = 1)
    (h : wpList P ops Q rest (a.put o.dst (.slice (some ⟨w.heap.size, 0, none⟩) 1 1)) (w.alloc (.cells #[.pointer y] e))) : wpList P ops Q (o :: rest) a w :=
  wpList_plain hg fun _ hK => by
    refine wp_buildSlice t e 1 _ ho #[.pointer y] i z hu hi hz (by rw [hs]; omega) (by rw [hs]; omega) ?_ (hK _ _ h)
    have e1 : (Array.map (fun (q : Nat × Operand) => (q.1, a.eval q.2)) #[(0, x)]).toList = [(0, .pointer y)] := by simp [hx]
    rw [show (Array.map (fun (i, x) => (i, a.eval x)) #[(0, x)]).toList = [(0, .pointer y)] from e1, ← Array.toArray_toList (xs := Array.map _ _)]
    rw [fill_part _ 0 0 (.pointer y) [.pointer y] _ _ rfl (by rw [hs]; rfl) (by simp [hs])]
    simp [hs, Instr.fill]
set_option maxHeartbeats 4000000 in
set_option maxRecDepth 100000 in
theorem ctunder_any (w : World) (base b mb : Nat) (M : List CNd) (id : List UInt8) (h : CtAt w base b mb M) (ht : TrL (ndM M)) (hid : id.length = 32) :
    Calls Tryz.prog 22 #[(.pointer (some ⟨b, 0, none⟩)), .agg (id.map bV).toArray] w (UnPost (ndM M) id w) := by
  have HT := Lib.hid h
  have TR := Lib.hid ht
  have LS := Lib.hid ht.start.1
  obtain ⟨vo, bo, hlk, hca⟩ := ct_look h ht id hid
  have LK := Lib.hid hlk
  have CA := Lib.hid hca
  have SC : Hid ((id.map bV).length = 32) := by show _ = _; rw [List.length_map]; exact hid
  obtain ⟨ci, hci⟩ : ∃ ci, ci = id.map bV := ⟨_, rfl⟩
  rw [← hci] at LK SC ⊢
  clear h ht hlk hca hid hci
  go_enter Tryz.func22, Tryz.ntmps22
  go_upto_region 1 with fail
  have f0 := heap_alloc_new w (.cells ci.toArray 25 (0, 0))
  have bb : Below w.heap.size w (w.alloc (.cells ci.toArray 25 (0, 0))) := ((Below.refl w.heap.size w).alloc (by first | exact Nat.le_refl _ | (simp only [World.size_alloc]; omega)) (.cells ci.toArray 25 (0, 0)))
  generalize hq : World.alloc _ _ = w1
  have eq : w.alloc (.cells ci.toArray 25 (0, 0)) = w1 := hq
  rw [eq] at f0 bb
  obtain ⟨g3, hg3⟩ : ∃ g3, g3 = w.heap.size := ⟨_, rfl⟩
  have Gg3 : Hid (w.heap.size ≤ g3) := by show _ ≤ _; omega
  rw [← hg3] at f0 ⊢
  have F3 := Lib.hid f0
  have B1 := Lib.hid bb
  clear f0 bb hq eq hg3
  refine wp_region_held_drew (S := (fun w' => Below w1.heap.size w1 w')) (by kernel_rfl) (Below.drew (Below.refl _ _)) (fun hHeld => ?_)
  generalize hwd : w1.drew = wd at  hHeld ⊢
  clear hwd
  refine held_take (i := 0) (v := (.pointer (some ⟨b, 0, none⟩))) rfl (by kernel_rfl) (by kernel_rfl) (by kernel_rfl) (fun _ _ _ h => h) (Or.inl ⟨by rfl, fun w' _ => by kernel_rfl⟩) hHeld ?_
  go_frame
  refine held_take (i := 1) (v := (.pointer (some ⟨b, 0, none⟩))) rfl (by kernel_rfl) (by kernel_rfl) (by kernel_rfl) (fun _ _ _ h => h) (Or.inl ⟨by rfl, fun w' _ => by kernel_rfl⟩) hHeld ?_
  go_frame
  refine held_take (i := 2) (v := (.pointer (some ⟨b, 32, none⟩))) rfl (by kernel_rfl) (by kernel_rfl) (by kernel_rfl) (fun _ _ _ h => h) (Or.inl ⟨by rfl, fun w' _ => by kernel_rfl⟩) hHeld ?_
  go_frame
  refine held_take (i := 3) (v := (.map (some mb))) rfl (by kernel_rfl) (by kernel_rfl) (by kernel_rfl) (fun _ _ _ h => h) (yieldsIf_load_one (by rfl) 74 (.tmp 13) rfl b (32) rfl _ _ (fun w' hw' => (HT.out.below (B1.out.trans (hw'.mono B1.out.size))).mcell LS.out) Tryz.underlying74 rfl) hHeld ?_
  go_frame
  refine held_take (i := 4) (v := (.agg ci.toArray)) rfl (by kernel_rfl) (by kernel_rfl) (by kernel_rfl) (fun _ _ _ h => h) (yieldsIf_load_row (by rfl) 25 (.tmp 3) rfl g3 rfl 25 ci.toArray (0, 0) _ (fun w' hw' => row_below F3.out hw') Tryz.underlying25 rfl (by show _ = some ci.length; rw [SC.out]; kernel_rfl)) hHeld ?_
  go_frame
  refine held_take (i := 5) (v := (.tuple #[vo, .bool bo])) rfl (by kernel_rfl) (by kernel_rfl) (by kernel_rfl) (fun _ _ _ h => h) (yieldsIf_lookup (by rfl) 74 (.tmp 14) (.tmp 15) true rfl _ _ _ rfl rfl (fun w' hw' => LK.out w' (B1.out.trans (hw'.mono B1.out.size)))) hHeld ?_
  go_frame
  refine held_take (i := 6) (v := (.tuple #[vo, .bool bo])) rfl (by kernel_rfl) (by kernel_rfl) (by kernel_rfl) (fun _ _ _ h => h) (Or.inl ⟨by rfl, fun w' _ => by kernel_rfl⟩) hHeld ?_
  go_frame
  refine held_take (i := 7) (v := vo) rfl (by kernel_rfl) (by kernel_rfl) (by kernel_rfl) (fun _ _ _ h => h) (Or.inl ⟨by rfl, fun w' _ => by kernel_rfl⟩) hHeld ?_
  go_frame
  refine held_take (i := 8) (v := (.bool bo)) rfl (by kernel_rfl) (by kernel_rfl) (by kernel_rfl) (fun _ _ _ h => h) (Or.inl ⟨by rfl, fun w' _ => by kernel_rfl⟩) hHeld ?_
  go_frame
  refine held_take (i := 9) (v := vo) rfl (by kernel_rfl) (by kernel_rfl) (by kernel_rfl) (fun _ _ _ h => h) (Or.inl ⟨by rfl, fun w' _ => by kernel_rfl⟩) hHeld ?_
  go_frame
  refine held_take (i := 10) (v := (.bool bo)) rfl (by kernel_rfl) (by kernel_rfl) (by kernel_rfl) (fun _ _ _ h => h) (Or.inl ⟨by rfl, fun w' _ => by kernel_rfl⟩) hHeld ?_
  go_frame
  refine wpAnyH_done (by kernel_rfl) ?_ _
  obtain ⟨v9, hv9⟩ : ∃ v9, v9 = wd := ⟨_, rfl⟩
  rw [← hv9] at  hHeld ⊢
  clear hv9
  have B2 := Lib.hid (B1.out.trans (hHeld.mono B1.out.size))
  clear hHeld LK F3 B1
  rcases CA.out with ⟨h1, rfl, rfl⟩ | ⟨k, c, h1, h2, h3, rfl, rfl⟩
  · have AE : Hid (undT (ndM M) id = []) := by show _ = _; unfold undT; rw [h1, if_pos (by omega)]
    clear h1
    go_wp2_with fail
    go_ret
    exact ⟨B2.out, _, [], rfl, HsAt.nil _ _ _, by rw [AE.out], List.Pairwise.nil⟩
  · have HC := Lib.hid h2
    have H1 := Lib.hid h1
    clear h1 h2 h3
    obtain ⟨i0, hi, hz0, hz1, hz2⟩ := info_parts info_nptr
    go_upto_region 5 with fail
    have nf := heap_alloc_new v9 (.cells #[.slice none 0 0] 42 (0, 0))
    have bb := (Below.refl v9.heap.size v9).alloc (Nat.le_refl _) (.cells #[.slice none 0 0] 42 (0, 0))
    generalize hq : World.alloc _ _ = w4
    have eq : v9.alloc (.cells #[.slice none 0 0] 42 (0, 0)) = w4 := hq
    rw [eq] at nf bb
    obtain ⟨gi, hg0⟩ : ∃ g, g = v9.heap.size := ⟨_, rfl⟩
    rw [← hg0] at nf ⊢
    have F4 := Lib.hid nf
    have B4 := Lib.hid (B2.out.trans (bb.mono B2.out.size))
    have NI : Hid (w.heap.size ≤ gi) := by show _ ≤ _; rw [hg0]; exact B2.out.size
    clear nf bb hq eq hg0
    go_wp2_with ((with_reducible show wpList _ _ _ _ _ _); (refine wpList_slice_ptr rfl 71 70 (.tmp 21) rfl (some ⟨c.ad, 0, none⟩) rfl Tryz.underlying71 i0 _ hi hz0 hz1 ?_; go_frame))
    have nf := heap_alloc_new w4 (.cells #[(.pointer (some ⟨c.ad, 0, none⟩))] 70 (0, 0))
    have bb := (Below.refl w4.heap.size w4).alloc (Nat.le_refl _) (.cells #[(.pointer (some ⟨c.ad, 0, none⟩))] 70 (0, 0))
    generalize hq : World.alloc _ _ = w5
    have eq : w4.alloc (.cells #[(.pointer (some ⟨c.ad, 0, none⟩))] 70 (0, 0)) = w5 := hq
    rw [eq] at nf bb
    obtain ⟨go, hg0⟩ : ∃ g, g = w4.heap.size := ⟨_, rfl⟩
    rw [← hg0] at nf ⊢
    have F6 := Lib.hid nf
    have B5 := Lib.hid (B4.out.trans (bb.mono B4.out.size))
    have F5 := Lib.hid (row_below F4.out bb)
    have OW5 : Hid (RwOwn 1 70 w.heap.size w5 (.slice (some ⟨go, 0, none⟩) 1 1) (rowsO M [k])) := by
      have e : rowsO M [k] = [[.pointer (some ⟨c.ad, 0, none⟩)]] := by unfold rowsO; rw [List.map_singleton, cnP_at HC.out]; rfl
      show RwOwn _ _ _ _ _ _
      rw [e]
      exact ⟨⟨rfl, .inr ⟨go, 1, _, rfl, by rw [hg0]; exact B4.out.size, nf, Nat.le_refl 1, by unfold maxLen; omega, rfl, rfl⟩⟩, fun x hx => by rw [List.mem_singleton.1 hx]; rfl⟩
    clear nf bb hq eq hg0 F6 F4 B4
    go_loopg [8] (subI (ndM M) k).length (fun n vs wr => UdInv M k gi w n vs wr)
    case atStart => exact ⟨[], [k], _, _, rfl, UnI.first _ (by rw [ndM_length]; exact (List.getElem?_eq_some_iff.1 HC.out).1), by simp, OW5.out, HsOwn.nil _ _, F5.out, B5.out⟩
    case round =>
      clear OW5 F5 B5
      obtain ⟨D, O, ov, iv, rfl, hu, hn, ho, hiv, hf, hb⟩ := hrel
      have HU := Lib.hid hu
      have HN := Lib.hid hn
      have HO := Lib.hid ho
      have HV := Lib.hid hiv
      have FI := Lib.hid hf
      have B := Lib.hid hb
      clear hu hn ho hiv hf hb
      rcases List.eq_nil_or_concat O with rfl | ⟨O, o, rfl⟩
      · obtain ⟨sp, cap, rfl⟩ := (HO.out.at (by decide)).shape
        have ci0 : wr.cell? ⟨gi, 0, none⟩ = some iv := by rw [cell_of_row _ _ _ _ _ _ FI.out]; rfl
        have hd := HU.out.done
        have h1 : 1 ≤ (idsN (ndM M) D).length := by
          unfold idsN
          rw [List.length_map, hd.length_eq]
          exact List.length_pos_of_mem (sub_self TR.out (ndM_at HC.out))
        have h2 : (idsN (ndM M) D).length ≤ 1048576 := by
          have h3 := sub_le (ndM M) k
          have h4 := TR.out.le
          unfold idsN
          rw [List.length_map, hd.length_eq]
          omega
        have HS := hssort_any w.heap.size gi iv (idsN (ndM M) D) wr HV.out FI.out h2 h1
        go_wp2_with fail
        refine HS.mono ?_
        rintro e w2 ⟨rfl, l, hp, hs, hat, hg⟩
        have ci2 : w2.cell? ⟨gi, 0, none⟩ = some iv := by rw [cell_of_row _ _ _ _ _ _ (row_far FI.out hg (own_ne' HV.out.1 FI.out (by decide)))]; rfl
        have PP : Hid (l.Perm (undT (ndM M) id)) := by
          have e1 : undT (ndM M) id = idsN (ndM M) (subI (ndM M) k) := by unfold undT; rw [H1.out, if_neg (by omega), Int.toNat_natCast]
          show l.Perm _
          rw [e1]
          exact hp.trans (hd.map _)
        have PS := Lib.hid hs
        have AT := Lib.hid hat
        have BE := Lib.hid (own_grown B.out (Nat.le_refl _) B.out.size HV.out.1 hg)
        clear hp hs hat hg hd h1 h2 HS ci0
        go_wp2_with fail
        go_ret
        exact ⟨BE.out, _, l, rfl, AT.out, PP.out, PS.out⟩
      · rw [List.concat_eq_append] at HU HO
        obtain ⟨co, hco⟩ : ∃ co, M[o]? = some co := ⟨_, List.getElem?_eq_getElem (by have := HU.out.lt o (by simp); rwa [ndM_length] at this)⟩
        have HCO := Lib.hid hco
        have RE : Hid (rowsO M (O ++ [o]) = rowsO M O ++ [[.pointer (some ⟨co.ad, 0, none⟩)]]) := by
          show _ = _
          unfold rowsO
          rw [List.map_append, List.map_singleton, cnP_at hco]
          rfl
        obtain ⟨m, hm⟩ : ∃ m, m = O.length := ⟨_, rfl⟩
        rw [RE.out] at HO
        have hl : (rowsO M O ++ [[Value.pointer (some ⟨co.ad, 0, none⟩)]]).length = m + 1 := by unfold rowsO; rw [List.length_append, List.length_map, hm]; rfl
        obtain ⟨gO, cap, cur, hv, _, hgo, hcap, _⟩ : ∃ g cap cur, ov = .slice (some ⟨g, 0, none⟩) (m + 1) cap ∧ w.heap.size ≤ g ∧ wr.heap[g]? = some (.cells cur 70 (0, 0)) ∧ m + 1 ≤ cap ∧ cap ≤ maxLen := by
          rcases HO.out.1.2 with ⟨_, h0⟩ | ⟨g, cap, cur, hv, hb, hc, hn, hm2, _⟩
          · rw [hl] at h0; omega
          · rw [hl] at hv hn
            exact ⟨g, cap, cur, hv, hb, hc, hn, hm2⟩
        subst hv
        have hcm : wr.cell? ⟨gO, m, none⟩ = some (.pointer (some ⟨co.ad, 0, none⟩)) := by
          have h0 := HO.out.1
          rw [hl] at h0
          have h1 := h0.cellAt m (by omega)
          have h2 := flatten_get _ m [Value.pointer (some ⟨co.ad, 0, none⟩)] HO.out.2 (by rw [List.getElem?_append_right (by unfold rowsO; rw [List.length_map, hm]; exact Nat.le_refl _)]; unfold rowsO; rw [List.length_map, hm, Nat.sub_self]; rfl) 0 (by decide)
          rw [Nat.mul_one, Nat.add_zero] at h2
          rw [h1, h2]
          rfl
        have GO := Lib.hid hgo
        have HH := Lib.hid HO.out.head
        have CAP := Lib.hid hcap
        have ML : Hid (m + D.length ≤ 4096) := by
          have := HU.out.le TR.out
          have h3 := sub_le (ndM M) k
          have h4 := TR.out.le
          rw [List.length_append, List.length_singleton] at this
          show _ ≤ _
          omega
        have ME := Lib.hid hm
        have ml : m ≤ 4096 := by have := ML.out; omega
        clear hco hl hgo hcap hm HO RE
        have CUT : Hid (sliced (some ⟨gO, 0, none⟩) 0 m cap 1 = .slice (some ⟨gO, 0, none⟩) m cap) := by show _ = _; unfold sliced; split <;> rfl
        have NG : Hid (gO ≠ gi) := fun e => by
          have h1 := GO.out
          rw [e, FI.out] at h1
          exact absurd (Obj.cells.inj (Option.some.inj h1)).2.1 (by decide)
        have RL : Hid ((rowsO M O).length = m) := by show _ = _; unfold rowsO; rw [List.length_map]; exact ME.out.symm
        have KL : Hid ((kidsM M o).length ≤ 4096) := by
          have h4 := TR.out.le
          show _ ≤ _
          unfold kidsM kidsI
          rw [List.length_map]
          refine Nat.le_trans (List.length_filter_le _ _) ?_
          rw [List.length_range]
          exact h4
        have KO : Hid (∀ x ∈ kidsM M o, ∀ u ∈ x, u.oneCell' = true) := fun x hx u hu => by
          obtain ⟨j, _, rfl⟩ := List.mem_map.1 hx
          rw [List.mem_singleton.1 hu]
          exact nptr_one _
        obtain ⟨gn, hgn⟩ : ∃ n, gk = n + 1 := ⟨gk - 1, by
          have h1 := HU.out.le TR.out
          have h2 := HN.out
          rw [List.length_append, List.length_singleton] at h1
          omega⟩
        subst hgn
        obtain ⟨ix, hix⟩ : ∃ ix, ix = co.nd.id := ⟨_, rfl⟩
        have LX : Hid (ix.length = 32) := by show _ = _; rw [hix]; exact (TR.out.ok _ (List.mem_of_getElem? (ndM_at HCO.out))).1
        obtain ⟨cx, hcx⟩ : ∃ cx, cx = ix.map bV := ⟨_, rfl⟩
        have LC : Hid (cx.length = 32) := by show _ = _; rw [hcx, List.length_map]; exact LX.out
        have OC : Hid (∀ u ∈ cx, u.oneCell' = true) := by rw [hcx]; exact bV_one' _
        have RI : Hid (∀ U, Below w.heap.size w U → U.rangeAt co.ad 0 cx) := fun U hU => by rw [hcx, hix]; exact HT.out.idr HCO.out hU
        have CXE := Lib.hid hcx
        obtain ⟨dl, hdl⟩ : ∃ dl, dl = idsN (ndM M) D := ⟨_, rfl⟩
        have DLL : Hid (dl.length ≤ 4096) := by
          have := ML.out
          show _ ≤ _
          rw [hdl]
          unfold idsN
          rw [List.length_map]
          omega
        have DX : Hid (idsN (ndM M) (D ++ [o]) = dl ++ [ix]) := by
          show _ = _
          rw [hdl, hix]
          unfold idsN
          rw [List.map_append, List.map_singleton, getD_at (ndM_at HCO.out)]
        rw [← hdl] at HV
        clear hix hcx hdl
        go_upto_region 8 with fail
        refine wp_region_end (fun w' => Below wr.heap.size wr w') [9] (by kernel_rfl) (Below.drew (Below.refl _ _)) (fun hHeld => ?_)
        generalize hwd : wr.drew = wd at  hHeld ⊢
        clear hwd
        refine end_take (i := 0) (v := (.slice (some ⟨gO, 0, none⟩) (m + 1) cap)) rfl (by kernel_rfl) (by kernel_rfl) (by kernel_rfl) (by kernel_rfl) (fun _ _ _ h => h) (Or.inl ⟨by rfl, fun w' _ => by kernel_rfl⟩) hHeld ?_
        go_frame
        refine end_take (i := 1) (v := (.slice (some ⟨gO, 0, none⟩) (m + 1) cap)) rfl (by kernel_rfl) (by kernel_rfl) (by kernel_rfl) (by kernel_rfl) (fun _ _ _ h => h) (Or.inl ⟨by rfl, fun w' _ => by kernel_rfl⟩) hHeld ?_
        go_frame
        refine end_take (i := 2) (v := (.int .i64 ((m : Int) + 1))) rfl (by kernel_rfl) (by kernel_rfl) (by kernel_rfl) (by kernel_rfl) (fun _ _ _ h => h) (Or.inl ⟨by rfl, fun w' _ => by go_simp⟩) hHeld ?_
        go_frame
        refine end_take (i := 3) (v := (.int .i64 (m : Int))) rfl (by kernel_rfl) (by kernel_rfl) (by kernel_rfl) (by kernel_rfl) (fun _ _ _ h => h) (Or.inl ⟨by rfl, fun w' _ => by go_simp; rw [IntKind.wrap_i64]; omega⟩) hHeld ?_
        go_frame
        refine end_take (i := 4) (v := (.slice (some ⟨gO, 0, none⟩) m cap)) rfl (by kernel_rfl) (by kernel_rfl) (by kernel_rfl) (by kernel_rfl) (fun _ _ _ h => h) (yieldsIf_cutS_h (by rfl) 71 (.tmp 32) (.tmp 35) rfl 70 1 Tryz.underlying71 (by kernel_rfl) (some ⟨gO, 0, none⟩) (m + 1) cap m rfl rfl (by have := CAP.out; omega) _ CUT.out) hHeld ?_
        go_frame
        refine end_take (i := 5) (v := (.pointer (some ⟨co.ad, 0, none⟩))) rfl (by kernel_rfl) (by kernel_rfl) (by kernel_rfl) (by kernel_rfl) (fun _ _ _ h => h) (Or.inl ⟨by rfl, fun w' _ => by kernel_rfl⟩) hHeld ?_
        go_frame
        refine end_take (i := 6) (v := (.pointer (some ⟨co.ad, 0, none⟩))) rfl (by kernel_rfl) (by kernel_rfl) (by kernel_rfl) (by kernel_rfl) (fun _ _ _ h => h) (Or.inl ⟨by rfl, fun w' _ => by kernel_rfl⟩) hHeld ?_
        go_frame
        refine end_take (i := 7) (v := (.pointer (some ⟨co.ad, 103, none⟩))) rfl (by kernel_rfl) (by kernel_rfl) (by kernel_rfl) (by kernel_rfl) (fun _ _ _ h => h) (Or.inl ⟨by rfl, fun w' _ => by kernel_rfl⟩) hHeld ?_
        go_frame
        refine end_take (i := 8) (v := co.kids) rfl (by kernel_rfl) (by kernel_rfl) (by kernel_rfl) (by kernel_rfl) (fun _ _ _ h => h) (yieldsIf_load_one (by rfl) 71 (.tmp 39) rfl co.ad (103) rfl _ _ (fun w' hw' => (HT.out.cells TR.out HCO.out (B.out.trans (hw'.mono B.out.size))).2.2.2) Tryz.underlying71 rfl) hHeld ?_
        go_frame
        refine end_last (i := 9) (by kernel_rfl) (by kernel_rfl) rfl (fun K hK => ?_)
        rw [if_pos (by rfl)]
        have HHa := Lib.hid (HH.out.keep hHeld)
        have Ba := Lib.hid (B.out.trans (hHeld.mono B.out.size))
        have HVa := Lib.hid (HV.out.keep hHeld)
        have FIa := Lib.hid (row_below FI.out hHeld)
        have GOa := Lib.hid (row_below GO.out hHeld)
        refine wp_append_rw wd (.tmp 36) (.tmp 40) 71 rfl w.heap.size 70 i0 (.pointer none) 1 8 Tryz.underlying71 hi hz0 hz1 hz2 (by kernel_rfl) (by decide) (.slice (some ⟨gO, 0, none⟩) m cap) (rowsO M O) rfl HHa.out co.kids (kidsM M o) rfl (((HT.out.below Ba.out).kid o co HCO.out).at (by decide)) KO.out (by have := RL.out; have := KL.out; have := ML.out; omega) (by have := RL.out; have := KL.out; have := ML.out; unfold maxLen; omega) Ba.out.size ?_
        intro nv w8 q1 q2
        have OW8 := Lib.hid q1
        have HV8 := Lib.hid (HVa.out.kept q2 (.inr (own_ne' HVa.out.1 GOa.out (by decide))))
        have F8 := Lib.hid (row_far FIa.out q2 (fun e => NG.out (Option.some.inj e)))
        have B8 := Lib.hid (own_grown Ba.out (Nat.le_refl _) Ba.out.size HHa.out.1 q2)
        clear q1 q2 hHeld HHa Ba HVa FIa GOa HV FI GO HH B
        go_frame
        refine hK.out _ _ ?_
        clear hK K
        refine end_late (i := 10) (v := nv) rfl (by kernel_rfl) (by kernel_rfl) (by kernel_rfl) (by kernel_rfl) (by kernel_rfl) (fun _ _ _ h => h) (Or.inl ⟨by rfl, fun w' _ => by kernel_rfl⟩) ?_
        go_frame
        refine end_done (by kernel_rfl) ?_ _
        clear hi hz0 hz1 hz2
        obtain ⟨i0, hi, hz0, hz1, hz2⟩ := info_parts info_hash
        go_upto_region 9 with fail
        refine wp_region_end (fun w' => Below w8.heap.size w8 w') [6, 7] (by kernel_rfl) (Below.drew (Below.refl _ _)) (fun hHeld => ?_)
        generalize hwd : w8.drew = wd at  hHeld ⊢
        clear hwd
        refine end_take (i := 0) (v := iv) rfl (by kernel_rfl) (by kernel_rfl) (by kernel_rfl) (by kernel_rfl) (fun _ _ _ h => h) (yieldsIf_load_one (by rfl) 42 (.tmp 7) rfl gi (0) rfl _ _ (fun w' hw' => by rw [cell_of_row _ _ _ _ _ _ (row_below F8.out hw')]; rfl) Tryz.underlying42 rfl) hHeld ?_
        go_frame
        refine end_take (i := 1) (v := (.pointer (some ⟨co.ad, 0, none⟩))) rfl (by kernel_rfl) (by kernel_rfl) (by kernel_rfl) (by kernel_rfl) (fun _ _ _ h => h) (Or.inl ⟨by rfl, fun w' _ => by kernel_rfl⟩) hHeld ?_
        go_frame
        refine end_take (i := 2) (v := (.pointer (some ⟨co.ad, 0, none⟩))) rfl (by kernel_rfl) (by kernel_rfl) (by kernel_rfl) (by kernel_rfl) (fun _ _ _ h => h) (Or.inl ⟨by rfl, fun w' _ => by kernel_rfl⟩) hHeld ?_
        go_frame
        refine end_take (i := 3) (v := (.pointer (some ⟨co.ad, 0, none⟩))) rfl (by kernel_rfl) (by kernel_rfl) (by kernel_rfl) (by kernel_rfl) (fun _ _ _ h => h) (Or.inl ⟨by rfl, fun w' _ => by kernel_rfl⟩) hHeld ?_
        go_frame
        refine end_take (i := 4) (v := (.agg cx.toArray)) rfl (by kernel_rfl) (by kernel_rfl) (by kernel_rfl) (by kernel_rfl) (fun _ _ _ h => h) (Sha.yieldsIf_load_mid (by rfl) 25 (.tmp 45) rfl co.ad (0) rfl cx _ (fun w' hw' => RI.out _ (B8.out.trans (hw'.mono B8.out.size))) Tryz.underlying25 rfl (by rw [LC.out]; kernel_rfl)) hHeld ?_
        go_frame
        refine end_next (i := 5) (by kernel_rfl) rfl (fun K hK => ?_)
        rw [if_pos (by rfl)]
        refine wp_slice_one 42 25 (.tmp 46) rfl (cx) rfl Tryz.underlying42 i0 _ hi hz0 (by rw [hz1, LC.out]) (by rw [LC.out]; omega) (by rw [LC.out]; omega) ?_
        have nf := heap_alloc_new wd (.cells (cx).toArray 25 (0, 0))
        have bb := (Below.refl wd.heap.size wd).alloc (Nat.le_refl _) (.cells (cx).toArray 25 (0, 0))
        obtain ⟨gv1, hgv1⟩ : ∃ g, g = wd.heap.size := ⟨_, rfl⟩
        generalize hqv1 : World.alloc _ _ = v1
        have ev1 : wd.alloc (.cells (cx).toArray 25 (0, 0)) = v1 := hqv1
        rw [ev1] at nf bb
        rw [← hgv1] at nf ⊢
        have NF := Lib.hid nf
        have hv1 := hHeld.trans (bb.mono hHeld.size)
        clear nf bb hqv1 ev1 hgv1 hHeld
        go_frame
        refine hK.out _ _ hv1 (fun hHeld => ?_)
        clear hK K hv1
        refine end_last (i := 6) (by kernel_rfl) (by kernel_rfl) rfl (fun K hK => ?_)
        rw [if_pos (by rfl)]
        have OWa := Lib.hid (OW8.out.keep hHeld)
        have Ba := Lib.hid (B8.out.trans (hHeld.mono B8.out.size))
        have HVa := Lib.hid (HV8.out.keep hHeld)
        have FIa := Lib.hid (row_below F8.out hHeld)
        refine wp_append_row v1 (.tmp 42) (.tmp 47) 42 rfl w.heap.size 25 i0 (.agg (List.replicate 32 (bV 0)).toArray) 32 32 Tryz.underlying42 hi hz0 hz1 hz2 (by kernel_rfl) (by decide) iv dl.length (hsL dl) rfl HVa.out.1 ⟨gv1, 0, none⟩ 1 1 cx rfl (by rw [LC.out]) (fun j u hj => by rw [Addr.add_mid]; exact range_of_box NF.out j u hj) OC.out (by have := DLL.out; unfold maxLen; omega) (by have := DLL.out; omega) Ba.out.size ?_
        intro v2 w10 q1 q2 _
        have VO := Lib.hid (own_one q1)
        have HVn : Hid (HsOwn w.heap.size w10 v2 (dl ++ [ix])) := HsOwn.push HVa.out.2 LX.out (by rw [← CXE.out]; exact q1)
        have OWn := Lib.hid (OWa.out.kept q2 (own_unlike OWa.out.1 HVa.out.1 (by decide)))
        have Fn := Lib.hid (row_far FIa.out q2 (own_ne' HVa.out.1 FIa.out (by decide)))
        have Bn := Lib.hid (own_grown Ba.out (Nat.le_refl _) Ba.out.size HVa.out.1 q2)
        clear q1 q2 hHeld OWa Ba HVa FIa OW8 HV8 F8 B8 NF
        go_frame
        refine hK.out _ _ ?_
        clear hK K
        refine end_last (i := 7) (by kernel_rfl) (by kernel_rfl) rfl (fun K hK => ?_)
        rw [if_pos (by rfl)]
        refine wp_store_part 42 (.tmp 7) (.tmp 48) rfl gi 0 [] [iv] [] [v2] 42 v2 rfl rfl (cells_one VO.out) rfl rfl Fn.out (by kernel_rfl) (one_mem VO.out) ?_
        intro w11 q1 q2
        have F11 := Lib.hid q1
        have HV11 := Lib.hid (HVn.out.kept q2 (.inr (own_ne' HVn.out.1 Fn.out (by decide))))
        have OW11 := Lib.hid (OWn.out.kept q2 (.inr (own_ne' OWn.out.1 Fn.out (by decide))))
        have B11 := Lib.hid (Bn.out.grown q2 Bn.out.size (fun k hk => by cases hk; exact NI.out))
        clear q1 q2 OWn HVn Fn Bn
        go_frame
        refine hK.out _ _ ?_
        clear hK K
        refine end_done (by kernel_rfl) ?_ _
        go_wp2_with fail
        go_roundg gn
        case measure => omega
        case rel => exact ⟨D ++ [o], O ++ kidsI (ndM M) o, nv, v2, rfl, HU.out.step TR.out, by have := HN.out; rw [List.length_append, List.length_singleton]; omega, by have h := OW11.out; unfold rowsO at h ⊢; rw [List.map_append]; exact h, by rw [DX.out]; exact HV11.out, F11.out, B11.out⟩
end Go.Proofs.YtbgagaaoldjhnaaGreatDoor.Sha

/-
  The statements' own order of digests, LessHash. Nothing that was there turns. Condition: digests of 32 bytes.
-/
namespace Go.Proofs.YtbgagaaoldjhnaaGreatDoor.Sha
open Go Go.RowKit
theorem lessL_at : ∀ (k : Nat) (l m : List UInt8), (∀ j, j < k → l.getD j 0 = m.getD j 0) → k < l.length → k < m.length → l.getD k 0 ≠ m.getD k 0 → lessL l m = decide (l.getD k 0 < m.getD k 0)
  | 0, x :: l, y :: m, _, _, _, h => by
    have h' : x ≠ y := h
    rw [less_cons, decide_eq_false h']
    simp
  | k + 1, x :: l, y :: m, hp, hl, hm, h => by
    have h0 : x = y := hp 0 (by omega)
    subst h0
    rw [less_cons, lessL_at k l m (fun j hj => hp (j + 1) (by omega)) (by simpa using hl) (by simpa using hm) h]
    simp
def LsInv (x y : List UInt8) (w : World) (i : Value) (wr : World) : Prop :=
  ∃ k : Nat, k ≤ 32 ∧ i = .int .i64 k ∧ (∀ j, j < k → x.getD j 0 = y.getD j 0) ∧ wr.heap[w.heap.size]? = some (.cells (x.map bV).toArray 25 (0, 0)) ∧ wr.heap[w.heap.size + 1]? = some (.cells (y.map bV).toArray 25 (0, 0)) ∧ Below w.heap.size w wr
theorem bv_lt (x y : UInt8) : decide (bv x < bv y) = decide (x < y) := by
  unfold bv
  by_cases h : x < y
  · rw [decide_eq_true h, decide_eq_true (by rw [UInt8.lt_iff_toNat_lt] at h; omega)]
  · rw [decide_eq_false h, decide_eq_false (by rw [UInt8.lt_iff_toNat_lt] at h; omega)]
set_option maxRecDepth 100000 in
theorem ref_less (x y : List UInt8) (hx : x.length = 32) (hy : y.length = 32) (w : World) :
    Calls Tryz.prog 63 #[.agg (x.map bV).toArray, .agg (y.map bV).toArray] w (SmPost (lessL x y) w) := by
  have HX := Lib.hid hx
  have HY := Lib.hid hy
  clear hx hy
  go_enter Tryz.func63, Tryz.ntmps63
  go_wp2_with fail
  go_loopw [5] (fun i wr => LsInv x y w i wr) (fun i _ => 32 - (intOf i).toNat)
  case atStart => exact ⟨0, by omega, rfl, fun j hj => by omega, heap_alloc2_old _ _ _, heap_alloc2_new _ _ _, ((Below.refl _ _).alloc (Nat.le_refl _) _).alloc (by simp) _⟩
  case round =>
    obtain ⟨k, hk, rfl, he, h1, h2, hb⟩ := hrel
    have H1 := Lib.hid h1
    have H2 := Lib.hid h2
    have HE := Lib.hid he
    have HB := Lib.hid hb
    by_cases hlt : k < 32
    · obtain ⟨a, ha⟩ : ∃ a, a = x.getD k 0 := ⟨_, rfl⟩
      obtain ⟨b, hb2⟩ : ∃ b, b = y.getD k 0 := ⟨_, rfl⟩
      have c1 : wr.cell? ⟨w.heap.size, k, none⟩ = some (.int .u8 (bv a)) := by rw [cell_of_row _ _ _ _ _ _ h1, bV_get _ _ (by rw [HX.out]; exact hlt), ha]
      have c2 : wr.cell? ⟨w.heap.size + 1, k, none⟩ = some (.int .u8 (bv b)) := by rw [cell_of_row _ _ _ _ _ _ h2, bV_get _ _ (by rw [HY.out]; exact hlt), hb2]
      have p0 : 0 ≤ (k : Int) := by omega
      have q0 : (k : Int) < 32 := by omega
      have HA := Lib.hid ha
      have HB2 := Lib.hid hb2
      clear h1 h2 he hb ha hb2
      by_cases hab : a = b
      · have ht : (bv a == bv b) = true := by rw [bv_beq, decide_eq_true hab]
        have ht' : (bv a != bv b) = false := by simp [bne, ht]
        have HAB := Lib.hid hab
        clear hab
        go_wp2_with fail
        go_quiet (fail)
        go_wp2_with fail
        go_roundw
        case rel =>
          refine ⟨k + 1, by omega, by go_num, fun j hj => ?_, H1.out, H2.out, below_drewN HB.out _⟩
          by_cases hj2 : j < k
          · exact HE.out j hj2
          · obtain rfl : j = k := by omega
            rw [← HA.out, ← HB2.out, HAB.out]
        case measure => simp [intOf]; omega
      · have ht : (bv a == bv b) = false := by rw [bv_beq, decide_eq_false hab]
        have ht' : (bv a != bv b) = true := by simp [bne, ht]
        have hless : lessL x y = decide (a < b) := by
          have h := lessL_at k x y HE.out (by rw [HX.out]; exact hlt) (by rw [HY.out]; exact hlt) (by rw [← HA.out, ← HB2.out]; exact hab)
          rw [← HA.out, ← HB2.out] at h
          exact h
        have HLS := Lib.hid hless
        clear hab hless
        go_wp2_with fail
        go_quiet (fail)
        go_wp2_with fail
        generalize hwk : World.drewN _ _ = wk
        have d1 : wk.cell? ⟨w.heap.size, k, none⟩ = some (.int .u8 (bv a)) := by rw [← hwk]; exact c1
        have d2 : wk.cell? ⟨w.heap.size + 1, k, none⟩ = some (.int .u8 (bv b)) := by rw [← hwk]; exact c2
        have HW := Lib.hid (show Below w.heap.size w wk by rw [← hwk]; exact below_drewN HB.out _)
        clear hwk c1 c2
        go_quiet (fail)
        go_wp2_with fail
        go_ret
        exact ⟨by rw [HLS.out, ← bv_lt]; rfl, below_drewN HW.out _⟩
    · have hge : ¬ (k : Int) < 32 := by omega
      have hxy : x = y := list_eq_of HX.out HY.out (fun j hj => he j (by omega))
      have HXY := Lib.hid hxy
      clear h1 h2 he hb hxy
      go_wp2_with fail
      go_ret
      exact ⟨by rw [HXY.out, less_self]; rfl, HB.out⟩
end Go.Proofs.YtbgagaaoldjhnaaGreatDoor.Sha
