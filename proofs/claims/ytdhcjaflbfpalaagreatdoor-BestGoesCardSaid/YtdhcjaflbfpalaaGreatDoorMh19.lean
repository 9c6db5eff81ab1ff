/-
  Texts of this proof joined into one file: BtMeet, BtBest, BlRefIds, MkPair, MkRowRef. What each holds, and under which conditions, its own first sentence tells.
-/
import Derived.IntWalk
import Derived.Test.YtdhcjaflbfpalaaGreatDoorMh18
import Derived.Test.YtdhcjaflbfpalaaGreatDoorMh08
import Derived.Test.YtdhcjaflbfpalaaGreatDoorMh04
import Derived.Test.YtdhcjaflbfpalaaGreatDoorMh05
/-
  What came to the tree is put into the ranks. Conditions: the marks lie where the pointer says, over a tree whose nodes hang on one another; the ranks hold what they should of those that were met.
-/
namespace Go.Proofs.YtdhcjaflbfpalaaGreatDoor.Sha
open Go Go.RowKit
theorem yieldsIf_len_gm {α β : Type} {kT vT mT : TypeId} {kf : α → Value} {vf : β → Value} {ok : α → Prop} {z : β} (M : MTy α β kT vT mT kf vf ok z) {b : Nat} {l : List (α × β)} {ops : Array Oper} {S : World → Prop} {op : Oper} {a : Act} (hw : Region.wanted op (yielded ops a.tmps) = true) (x : Operand)
    (ho : op.op = Op.call { callee := Callee.builtin Builtin.len, args := #[x], argTypes := #[mT] }) (hx : a.eval x = .map (some b)) (n : Nat) (hn : n = l.length) (h : ∀ w, S w → MpAt kf vf ok w b l) : YieldsIf Tryz.prog ops S op (.int .i64 (n : Int)) a :=
  .inl ⟨hw, fun w hw' => by
    have hr := gm_len M (h w hw') op.type
    rw [← hn] at hr
    simp [execOp, ho, resolve, invoke, builtin, hx, hr, Result.andThen]⟩
/-- What heap.Push leaves. -/
def HuP (base b tb bm mm : Nat) (B Mt : IdSet) (d : Array Rk) (x : Rk) (w : World) (e : Ending) (w' : World) : Prop :=
  e = .returned (.tuple #[]) ∧ ∃ (d' : Array Rk) (lv' : Value), d'.toList.Perm (x :: d.toList) ∧ d'.size = d.size + 1 ∧ HeapP overK d'.size d' ∧ MkAt w' base b tb bm mm lv' B Mt d' ∧ HtR base w w'
theorem bkhpush_any (w : World) (base b tb bm mm : Nat) (lv : Value) (B Mt : IdSet) (d : Array Rk) (x : Rk) (hm : MkAt w base b tb bm mm lv B Mt d) (hh : HeapP overK d.size d) (hd : d.size < 1048576) (hb : base ≤ w.heap.size) :
    Calls Tryz.prog 60 #[.iface 99 (.pointer (some ⟨b, 3, none⟩)), rkV x] w (HuP base b tb bm mm B Mt d x w) :=
  (hp_push (bk_env base b tb bm mm B Mt) swoK w d x ⟨hb, Nat.le_of_lt hd, lv, hm⟩ hh trivial hd).mono fun e w' ⟨h1, d', h2, h3, h4, ⟨_, _, lv', h5⟩, h6⟩ => ⟨h1, d', lv', h2, h3, h4, h5, h6⟩
/-- What heap.Pop leaves. -/
def HoP (base b tb bm mm : Nat) (B Mt : IdSet) (d : Array Rk) (w : World) (e : Ending) (w' : World) : Prop :=
  e = .returned (rkV d[0]!) ∧ ∃ (d' : Array Rk) (lv' : Value), d.toList.Perm (d[0]! :: d'.toList) ∧ d'.size + 1 = d.size ∧ HeapP overK d'.size d' ∧ MkAt w' base b tb bm mm lv' B Mt d' ∧ HtR base w w'
theorem bkhpop_any (w : World) (base b tb bm mm : Nat) (lv : Value) (B Mt : IdSet) (d : Array Rk) (n : Nat) (hm : MkAt w base b tb bm mm lv B Mt d) (hh : HeapP overK d.size d) (hn : d.size = n + 1) (hd : d.size ≤ 1048576) (hb : base ≤ w.heap.size) :
    Calls Tryz.prog 41 #[.iface 99 (.pointer (some ⟨b, 3, none⟩))] w (HoP base b tb bm mm B Mt d w) :=
  (hp_pop (bk_env base b tb bm mm B Mt) swoK w d n ⟨hb, hd, lv, hm⟩ hn hh).mono fun e w' ⟨h1, d', h2, h3, h4, ⟨_, _, lv', h5⟩, h6⟩ => ⟨h1, d', lv', h2, by rw [h3, hn], h4, h5, h6⟩
theorem sub_len {α : Type} [DecidableEq α] : ∀ (l m : List α), l.Nodup → (∀ x ∈ l, x ∈ m) → l.length ≤ m.length
  | [], _, _, _ => Nat.zero_le _
  | a :: l, m, hn, hs => by
    obtain ⟨hna, hnl⟩ := List.nodup_cons.1 hn
    have ha : a ∈ m := hs a List.mem_cons_self
    have := sub_len l (m.erase a) hnl fun y hy => (List.mem_erase_of_ne (fun e => hna (by rw [← e]; exact hy))).2 (hs y (List.mem_cons_of_mem _ hy))
    rw [List.length_erase_of_mem ha] at this
    have h0 := List.length_pos_of_mem ha
    simp only [List.length_cons]
    omega
theorem MkI.le {L : List TNd} {B Mt : IdSet} {d : Array Rk} (h : MkI L B Mt d) (ha : Mt.Pairwise fun x y => x.1 ≠ y.1) : Mt.length ≤ L.length := by
  have := sub_len (Mt.map (·.1)) (L.map (·.id)) (by rw [List.nodup_iff_pairwise_ne, List.pairwise_map]; exact ha) fun y hy => by
    obtain ⟨j, z, _, hz, e⟩ := found (h.met y (inB_iff.2 hy)).1
    exact List.mem_map.2 ⟨z, List.mem_of_getElem? hz, e⟩
  rwa [List.length_map, List.length_map] at this
theorem und_start {L : List TNd} (ht : TrL L) {s : TNd} (hs : L[0]? = some s) {q : List UInt8} (hq : 0 ≤ findT L q) : q ∈ undT L s.id := by
  obtain ⟨k, x, _, hx, rfl⟩ := found hq
  have hk := (List.getElem?_eq_some_iff.1 hx).1
  have e0 := findT_id ht hs
  unfold undT
  rw [e0, if_neg (by omega), Int.toNat_natCast]
  unfold idsN
  refine List.mem_map.2 ⟨k, sub_mem.2 ⟨hk, bel_mem.2 ?_⟩, by rw [getD_at hx]⟩
  have hl := upL_last ht.down ht.root k k (Nat.le_refl _) hk
  exact List.mem_of_getLast? hl
theorem und_found {L : List TNd} {id q : List UInt8} (h : q ∈ undT L id) : 0 ≤ findT L q := by
  unfold undT at h
  split at h
  · cases h
  · unfold idsN at h
    obtain ⟨j, hj, e⟩ := List.mem_map.1 h
    obtain ⟨y, hy⟩ := node_at (sub_mem.1 hj).1
    rw [getD_at hy] at e
    rcases findT_cases L q with ⟨_, hno⟩ | ⟨k, x, e2, _⟩
    · exact absurd e (hno y (List.mem_of_getElem? hy))
    · omega
/-- What meet leaves: all that are in the tree are met. -/
def MeP (base b tb bm mm : Nat) (B : IdSet) (L : List TNd) (w : World) (e : Ending) (w' : World) : Prop :=
  e = .returned (.tuple #[]) ∧ ∃ (lv' : Value) (Mt' : IdSet) (d' : Array Rk), MkAt w' base b tb bm mm lv' B Mt' d' ∧ MkI L B Mt' d' ∧ (∀ q, 0 ≤ findT L q → inI Mt' q = true) ∧ BtR base bm mm w w'
def MeInv2 (base b tb bm mm : Nat) (B : IdSet) (L : List TNd) (l : List (List UInt8)) (vs : Value) (w : World) (v : Value) (wr : World) : Prop :=
  ∃ (k : Nat) (lv : Value) (Mt : IdSet) (d : Array Rk), v = .int .i64 (k : Int) ∧ k ≤ l.length ∧ MkAt wr base b tb bm mm lv B Mt d ∧ MkI L B Mt d ∧ (∀ q ∈ l.take k, inI Mt q = true) ∧ BtR base bm mm w wr ∧ HsT wr vs l
set_option maxHeartbeats 4000000 in
set_option maxRecDepth 100000 in
theorem bkmeet_any (w : World) (base b tb bm mm tbase tm : Nat) (lv0 : Value) (B Mt : IdSet) (d : Array Rk) (M : List CNd) (hm : MkAt w base b tb bm mm lv0 B Mt d) (hi : MkI (ndM M) B Mt d) (ht : CtAt w tbase tb tm M) (tr : TrL (ndM M)) (hne : tm ≠ bm ∧ tm ≠ mm) (hbs : base ≤ w.heap.size) :
    Calls Tryz.prog 40 #[(.pointer (some ⟨b, 0, none⟩))] w (MeP base b tb bm mm B (ndM M) w) := by
  have CE := Lib.hid hm.cells
  have HM := Lib.hid hm
  have HI := Lib.hid hi
  have TR := Lib.hid tr
  have HT := Lib.hid ht
  have HNE := Lib.hid hne
  have HBS := Lib.hid hbs
  have LN : Hid (∀ W, Below w.heap.size w W → Calls Tryz.prog 59 #[(.pointer (some ⟨tb, 0, none⟩))] W fun e w' => e = .returned (.int .i64 ((ndM M).length : Int)) ∧ Below W.heap.size W w') := fun W hW => (ctlen_any W tbase tb tm M (ht.below hW) tr).mono fun _ _ h => ⟨h.1, by rw [← h.2]; exact Below.refl _ _⟩
  have ST : Hid (∀ W, Below w.heap.size w W → Calls Tryz.prog 27 #[(.pointer (some ⟨tb, 0, none⟩))] W fun e w' => e = .returned (.agg (((ndM M).getD 0 ndZ).id.map bV).toArray) ∧ Below W.heap.size W w') := fun W hW => ctstart_any W tbase tb tm M (ht.below hW) tr
  obtain ⟨ls, l0⟩ := tr.start
  have UN : Hid (∀ W, Below w.heap.size w W → Calls Tryz.prog 38 #[(.pointer (some ⟨tb, 0, none⟩)), .agg (((ndM M).getD 0 ndZ).id.map bV).toArray] W (UnPost2 (ndM M) ((ndM M).getD 0 ndZ).id W)) := fun W hW => ctunder_own W tbase tb tm M _ (ht.below hW) tr ls
  have US : Hid (∀ q, 0 ≤ findT (ndM M) q → q ∈ undT (ndM M) ((ndM M).getD 0 ndZ).id) := fun q hq => und_start tr l0 hq
  obtain ⟨si, hsi⟩ : ∃ si, si = ((ndM M).getD 0 ndZ).id := ⟨_, rfl⟩
  rw [← hsi] at ST UN US
  have NL : Hid ((undT (ndM M) si).length ≤ 4096) := Nat.le_trans (und_le si) tr.le
  obtain ⟨mn, hmn⟩ : ∃ mn, mn = Mt.length := ⟨_, rfl⟩
  obtain ⟨ln, hln⟩ : ∃ ln, ln = (ndM M).length := ⟨_, rfl⟩
  rw [← hln] at LN
  obtain ⟨eb, heb⟩ : ∃ eb : Bool, eb = ((mn : Int) == (ln : Int)) := ⟨_, rfl⟩
  have EB := Lib.hid heb
  have MN := Lib.hid hmn
  have LNE := Lib.hid hln
  clear hm ht tr hi hsi hmn hln heb ls l0 hne hbs
  go_enter Tryz.func40, Tryz.ntmps40
  go_upto_region 0 with fail
  refine wp_region_held_drew (S := (fun w' => Below w.heap.size w w')) (by kernel_rfl) (Below.drew (Below.refl _ _)) (fun hHeld => ?_)
  generalize hwd : w.drew = wd at  hHeld ⊢
  clear hwd
  refine held_take (i := 0) (v := (.pointer (some ⟨b, 0, none⟩))) rfl (by kernel_rfl) (by kernel_rfl) (by kernel_rfl) (fun _ _ _ h => h) (Or.inl ⟨by rfl, fun w' _ => by kernel_rfl⟩) hHeld ?_
  go_frame
  refine held_take (i := 1) (v := (.pointer (some ⟨b, 0, none⟩))) rfl (by kernel_rfl) (by kernel_rfl) (by kernel_rfl) (fun _ _ _ h => h) (Or.inl ⟨by rfl, fun w' _ => by kernel_rfl⟩) hHeld ?_
  go_frame
  refine held_take (i := 2) (v := (.pointer (some ⟨b, 2, none⟩))) rfl (by kernel_rfl) (by kernel_rfl) (by kernel_rfl) (fun _ _ _ h => h) (Or.inl ⟨by rfl, fun w' _ => by kernel_rfl⟩) hHeld ?_
  go_frame
  refine held_take (i := 3) (v := (.map (some mm))) rfl (by kernel_rfl) (by kernel_rfl) (by kernel_rfl) (fun _ _ _ h => h) (yieldsIf_load_one (by rfl) 74 (.tmp 10) rfl b (2) rfl _ _ (fun w' hw' => cell_below CE.out.2.2.1 hw') Tryz.underlying74 rfl) hHeld ?_
  go_frame
  refine held_take (i := 4) (v := (.int .i64 (mn : Int))) rfl (by kernel_rfl) (by kernel_rfl) (by kernel_rfl) (fun _ _ _ h => h) (yieldsIf_len_gm mty_ids (by rfl) _ rfl rfl mn MN.out (fun w' hw' => (HM.out.below hw').met)) hHeld ?_
  go_frame
  refine held_take (i := 5) (v := (.pointer (some ⟨b, 0, none⟩))) rfl (by kernel_rfl) (by kernel_rfl) (by kernel_rfl) (fun _ _ _ h => h) (Or.inl ⟨by rfl, fun w' _ => by kernel_rfl⟩) hHeld ?_
  go_frame
  refine held_take (i := 6) (v := (.pointer (some ⟨b, 0, none⟩))) rfl (by kernel_rfl) (by kernel_rfl) (by kernel_rfl) (fun _ _ _ h => h) (Or.inl ⟨by rfl, fun w' _ => by kernel_rfl⟩) hHeld ?_
  go_frame
  refine held_take (i := 7) (v := (.pointer (some ⟨b, 0, none⟩))) rfl (by kernel_rfl) (by kernel_rfl) (by kernel_rfl) (fun _ _ _ h => h) (Or.inl ⟨by rfl, fun w' _ => by kernel_rfl⟩) hHeld ?_
  go_frame
  refine held_take (i := 8) (v := (.pointer (some ⟨tb, 0, none⟩))) rfl (by kernel_rfl) (by kernel_rfl) (by kernel_rfl) (fun _ _ _ h => h) (yieldsIf_load_one (by rfl) 33 (.tmp 15) rfl b (0) rfl _ _ (fun w' hw' => cell_below CE.out.1 hw') Tryz.underlying33 rfl) hHeld ?_
  go_frame
  refine wpAnyH_ready (rs := [9]) (by kernel_rfl) (by simp) (held_cons rfl (fun K hK => ?_) AllReadyH.nil)
  go_simp
  refine (LN.out _ hHeld).mono ?_
  rintro e v1 ⟨rfl, bb⟩
  have hv1 := hHeld.trans (bb.mono hHeld.size)
  clear bb hHeld
  go_wp2_with fail
  refine hK.out _ _ hv1 (fun hHeld => ?_)
  clear hK K hv1
  refine held_take (i := 10) (v := (.bool eb)) rfl (by kernel_rfl) (by kernel_rfl) (by kernel_rfl) (fun _ _ _ h => h) (Or.inl ⟨by rfl, fun w' _ => by rw [EB.out]; kernel_rfl⟩) hHeld ?_
  go_frame
  refine wpAnyH_done (by kernel_rfl) ?_ _
  obtain ⟨w2, hw2⟩ : ∃ w2, w2 = v1 := ⟨_, rfl⟩
  rw [← hw2] at  hHeld ⊢
  clear hw2
  have B2 := Lib.hid hHeld
  clear hHeld
  cases eb with
  | true =>
    go_wp2_with fail
    go_end0
    refine ⟨rfl, lv0, Mt, d, HM.out.below B2.out, HI.out, HI.out.full HM.out.met.apart ?_, BtR.below B2.out⟩
    have h : (mn : Int) = (ln : Int) := by
      have := EB.out
      simpa using this.symm
    have h1 := MN.out
    have h2 := LNE.out
    omega
  | false =>
    go_upto_region 1 with fail
    refine wp_region_held_drew (S := (fun w' => Below w2.heap.size w2 w')) (by kernel_rfl) (Below.drew (Below.refl _ _)) (fun hHeld => ?_)
    generalize hwd : w2.drew = wd at  hHeld ⊢
    clear hwd
    refine held_take (i := 0) (v := (.pointer (some ⟨b, 0, none⟩))) rfl (by kernel_rfl) (by kernel_rfl) (by kernel_rfl) (fun _ _ _ h => h) (Or.inl ⟨by rfl, fun w' _ => by kernel_rfl⟩) hHeld ?_
    go_frame
    refine held_take (i := 1) (v := (.pointer (some ⟨b, 0, none⟩))) rfl (by kernel_rfl) (by kernel_rfl) (by kernel_rfl) (fun _ _ _ h => h) (Or.inl ⟨by rfl, fun w' _ => by kernel_rfl⟩) hHeld ?_
    go_frame
    refine held_take (i := 2) (v := (.pointer (some ⟨b, 0, none⟩))) rfl (by kernel_rfl) (by kernel_rfl) (by kernel_rfl) (fun _ _ _ h => h) (Or.inl ⟨by rfl, fun w' _ => by kernel_rfl⟩) hHeld ?_
    go_frame
    refine held_take (i := 3) (v := (.pointer (some ⟨tb, 0, none⟩))) rfl (by kernel_rfl) (by kernel_rfl) (by kernel_rfl) (fun _ _ _ h => h) (yieldsIf_load_one (by rfl) 33 (.tmp 21) rfl b (0) rfl _ _ (fun w' hw' => cell_below CE.out.1 (B2.out.trans (hw'.mono B2.out.size))) Tryz.underlying33 rfl) hHeld ?_
    go_frame
    refine held_take (i := 4) (v := (.pointer (some ⟨b, 0, none⟩))) rfl (by kernel_rfl) (by kernel_rfl) (by kernel_rfl) (fun _ _ _ h => h) (Or.inl ⟨by rfl, fun w' _ => by kernel_rfl⟩) hHeld ?_
    go_frame
    refine held_take (i := 5) (v := (.pointer (some ⟨b, 0, none⟩))) rfl (by kernel_rfl) (by kernel_rfl) (by kernel_rfl) (fun _ _ _ h => h) (Or.inl ⟨by rfl, fun w' _ => by kernel_rfl⟩) hHeld ?_
    go_frame
    refine held_take (i := 6) (v := (.pointer (some ⟨b, 0, none⟩))) rfl (by kernel_rfl) (by kernel_rfl) (by kernel_rfl) (fun _ _ _ h => h) (Or.inl ⟨by rfl, fun w' _ => by kernel_rfl⟩) hHeld ?_
    go_frame
    refine held_take (i := 7) (v := (.pointer (some ⟨tb, 0, none⟩))) rfl (by kernel_rfl) (by kernel_rfl) (by kernel_rfl) (fun _ _ _ h => h) (yieldsIf_load_one (by rfl) 33 (.tmp 25) rfl b (0) rfl _ _ (fun w' hw' => cell_below CE.out.1 (B2.out.trans (hw'.mono B2.out.size))) Tryz.underlying33 rfl) hHeld ?_
    go_frame
    refine held_take (i := 11) (v := (.int .i64 0)) rfl (by kernel_rfl) (by kernel_rfl) (by kernel_rfl) (fun _ _ _ h => h) (Or.inl ⟨by rfl, fun w' _ => by kernel_rfl⟩) hHeld ?_
    go_frame
    refine wpAnyH_ready (rs := [8]) (by kernel_rfl) (by simp) (held_cons rfl (fun K hK => ?_) AllReadyH.nil)
    go_simp
    refine (ST.out _ (B2.out.trans (hHeld.mono B2.out.size))).mono ?_
    rintro e v1 ⟨rfl, bb⟩
    have hv1 := hHeld.trans (bb.mono hHeld.size)
    clear bb hHeld
    go_wp2_with fail
    refine hK.out _ _ hv1 (fun hHeld => ?_)
    clear hK K hv1
    refine wpAnyH_ready (rs := [9]) (by kernel_rfl) (by simp) (held_cons rfl (fun K hK => ?_) AllReadyH.nil)
    go_simp
    refine (UN.out _ (B2.out.trans (hHeld.mono B2.out.size))).mono ?_
    rintro e v2 ⟨bb, vs, l, rfl, hat, hp, _, hty⟩
    obtain ⟨sp, cap, rfl⟩ := hat.shape
    obtain ⟨n, hn⟩ : ∃ n, n = l.length := ⟨_, rfl⟩
    rw [← hn] at hat hty ⊢
    have HS0 : Hid (HsT v2 (.slice sp n cap) l) := ⟨hat, hty⟩
    have HPM := Lib.hid hp
    have HN := Lib.hid hn
    clear hat hp hty hn
    have hv2 := hHeld.trans (bb.mono hHeld.size)
    clear bb hHeld
    go_wp2_with fail
    refine hK.out _ _ hv2 (fun hHeld => ?_)
    clear hK K hv2
    refine held_take (i := 10) (v := (.int .i64 (n : Int))) rfl (by kernel_rfl) (by kernel_rfl) (by kernel_rfl) (fun _ _ _ h => h) (Or.inl ⟨by rfl, fun w' _ => by go_simp⟩) hHeld ?_
    go_frame
    refine wpAnyH_done (by kernel_rfl) ?_ _
    obtain ⟨w3, hw3⟩ : ∃ w3, w3 = v2 := ⟨_, rfl⟩
    rw [← hw3] at HS0 hHeld ⊢
    clear hw3
    have B3 := Lib.hid (B2.out.trans (hHeld.mono B2.out.size))
    clear hHeld ST UN LN B2
    have NB : Hid (n ≤ 4096) := by
      have h1 := HPM.out.length_eq
      have h2 := HN.out
      have h3 := NL.out
      show _ ≤ _
      omega
    go_wp2_with fail
    go_loopw [30] (fun v wr => MeInv2 base b tb bm mm B (ndM M) l (.slice sp n cap) w v wr) (fun v _ => n - (intOf v).toNat)
    case atStart => exact ⟨0, lv0, Mt, d, rfl, Nat.zero_le _, HM.out.below B3.out, HI.out, fun q h => by simp at h, BtR.below B3.out, HS0.out⟩
    case round =>
      clear HS0 B3
      obtain ⟨k, lv, Mk, dk, rfl, hk, hma, hmi, hmt, hrr, hhs⟩ := hrel
      have MA := Lib.hid hma
      have MI := Lib.hid hmi
      have MTK := Lib.hid hmt
      have RK := Lib.hid hrr
      have HSK := Lib.hid hhs
      have DK : Hid (dk.size ≤ 4096) := Nat.le_trans hmi.sz (Nat.le_trans (hmi.le hma.met.apart) TR.out.le)
      clear hma hmi hmt hrr hhs hk
      by_cases hlt : k < n
      · obtain ⟨x0, hx0⟩ : ∃ x0, l[k]? = some x0 := ⟨_, List.getElem?_eq_getElem (by have := HN.out; omega)⟩
        obtain ⟨gs, os, rfl, hrx, lx0⟩ := hs_at HSK.out hx0
        obtain ⟨x, rfl⟩ : ∃ x : OH, x0 = x.1 := ⟨⟨x0, lx0⟩, rfl⟩
        have XK := Lib.hid hx0
        have FX : Hid (0 ≤ findT (ndM M) x.1) := und_found (HPM.out.mem_iff.1 (List.mem_of_getElem? hx0))
        have RX := Lib.hid hrx
        have LXB : Hid ((x.1.map bV).length = 32) := by show _ = _; rw [List.length_map]; exact x.2
        have SX : Hid ((x.1.map bV).toArray.size = 32) := by show _ = _; rw [List.size_toArray]; exact LXB.out
        have AX : Hid ((x.1.map bV).toArray.all (·.oneCell') = true) := bV_one _
        have q0 : (k : Int) < (n : Int) := by omega
        clear hx0 hrx lx0
        go_upto_region 4 with ((with_reducible show wpList _ _ _ _ _ _); first | (refine wpList_load_mid rfl 26 (.tmp 32) rfl gs (os + k * 32) rfl (x.1.map bV) _ RX.out Tryz.underlying26 rfl (by rw [LXB.out]; kernel_rfl) ?_; go_frame) | (refine wpList_store_row rfl 26 (.tmp 3) (.tmp 33) rfl wr.heap.size (x.1.map bV).toArray rfl rfl 26 _ (heap_alloc_new _ _) (by rw [SX.out]; kernel_rfl) (by rw [SX.out]; rfl) AX.out ?_; go_frame))
        obtain ⟨_, f2, f3, f4⟩ := fill_setup (Below.refl wr.heap.size wr) (List.replicate 32 (bV 0)).toArray (x.1.map bV).toArray 26
        generalize hqw7 : World.setRow _ _ _ = w7
        have ew7 : World.setRow (wr.alloc (.cells (List.replicate 32 (bV 0)).toArray 26)) wr.heap.size (x.1.map bV).toArray = w7 := hqw7
        rw [ew7] at f2 f3 f4
        obtain ⟨g3, hg3⟩ : ∃ g3, g3 = wr.heap.size := ⟨_, rfl⟩
        rw [← hg3] at f2 ⊢
        have F3 := Lib.hid f2
        have Ng3 : Hid (wr.heap.size ≤ g3) := by show _ ≤ _; rw [hg3]; exact Nat.le_refl _
        have MA7 := Lib.hid (MA.out.below f4)
        have HS7 := Lib.hid (HSK.out.below f4)
        have R7 := Lib.hid (RK.out.trans (BtR.below f4))
        clear f2 f3 f4 hqw7 ew7 hg3
        have LQ : Hid (∀ W, Below w7.heap.size w7 W → (Instr.lookup 74 (.map (some mm)) (.agg (x.1.map bV).toArray) true).run Tryz.prog W = .ok (.tuple #[.agg #[], .bool (inI Mk x.1)]) W) := fun W hW => gm_look mty_ids (MA7.out.below hW).met x.1 x.2
        obtain ⟨q1, hq1⟩ : ∃ q1, q1 = inI Mk x.1 := ⟨_, rfl⟩
        rw [← hq1] at LQ
        have IQ := Lib.hid hq1
        clear MA HSK RK Ng3 q0 hq1
        refine wp_region_held_drew (S := (fun w' => Below w7.heap.size w7 w')) (by kernel_rfl) (Below.drew (Below.refl _ _)) (fun hHeld => ?_)
        generalize hwd : w7.drew = wd at  hHeld ⊢
        clear hwd
        refine held_take (i := 0) (v := (.pointer (some ⟨b, 0, none⟩))) rfl (by kernel_rfl) (by kernel_rfl) (by kernel_rfl) (fun _ _ _ h => h) (Or.inl ⟨by rfl, fun w' _ => by kernel_rfl⟩) hHeld ?_
        go_frame
        refine held_take (i := 1) (v := (.pointer (some ⟨b, 0, none⟩))) rfl (by kernel_rfl) (by kernel_rfl) (by kernel_rfl) (fun _ _ _ h => h) (Or.inl ⟨by rfl, fun w' _ => by kernel_rfl⟩) hHeld ?_
        go_frame
        refine held_take (i := 2) (v := (.pointer (some ⟨b, 2, none⟩))) rfl (by kernel_rfl) (by kernel_rfl) (by kernel_rfl) (fun _ _ _ h => h) (Or.inl ⟨by rfl, fun w' _ => by kernel_rfl⟩) hHeld ?_
        go_frame
        refine held_take (i := 3) (v := (.map (some mm))) rfl (by kernel_rfl) (by kernel_rfl) (by kernel_rfl) (fun _ _ _ h => h) (yieldsIf_load_one (by rfl) 74 (.tmp 37) rfl b (2) rfl _ _ (fun w' hw' => (MA7.out.below hw').cells.2.2.1) Tryz.underlying74 rfl) hHeld ?_
        go_frame
        refine held_take (i := 4) (v := (.agg (x.1.map bV).toArray)) rfl (by kernel_rfl) (by kernel_rfl) (by kernel_rfl) (fun _ _ _ h => h) (yieldsIf_load_row (by rfl) 26 (.tmp 3) rfl g3 rfl 26 (x.1.map bV).toArray (0, 0) _ (fun w' hw' => row_below F3.out hw') Tryz.underlying26 rfl (by rw [SX.out]; kernel_rfl)) hHeld ?_
        go_frame
        refine held_take (i := 5) (v := (.tuple #[.agg #[], .bool q1])) rfl (by kernel_rfl) (by kernel_rfl) (by kernel_rfl) (fun _ _ _ h => h) (yieldsIf_lookup (by rfl) 74 (.tmp 38) (.tmp 39) true rfl _ _ _ rfl rfl (fun w' hw' => LQ.out w' hw')) hHeld ?_
        go_frame
        refine held_take (i := 6) (v := (.tuple #[.agg #[], .bool q1])) rfl (by kernel_rfl) (by kernel_rfl) (by kernel_rfl) (fun _ _ _ h => h) (Or.inl ⟨by rfl, fun w' _ => by kernel_rfl⟩) hHeld ?_
        go_frame
        refine held_take (i := 7) (v := (.agg #[])) rfl (by kernel_rfl) (by kernel_rfl) (by kernel_rfl) (fun _ _ _ h => h) (Or.inl ⟨by rfl, fun w' _ => by kernel_rfl⟩) hHeld ?_
        go_frame
        refine held_take (i := 8) (v := (.bool q1)) rfl (by kernel_rfl) (by kernel_rfl) (by kernel_rfl) (fun _ _ _ h => h) (Or.inl ⟨by rfl, fun w' _ => by kernel_rfl⟩) hHeld ?_
        go_frame
        refine wpAnyH_ready (rs := [9]) (by kernel_rfl) (by simp) (held_cons rfl (fun K hK => ?_) AllReadyH.nil)
        go_simp
        have nf := heap_alloc_new wd (.cells (([] : List Value)).toArray 96 (0, 0))
        have bb := (Below.refl wd.heap.size wd).alloc (Nat.le_refl _) (.cells (([] : List Value)).toArray 96 (0, 0))
        obtain ⟨gv1, hgv1⟩ : ∃ g, g = wd.heap.size := ⟨_, rfl⟩
        have GFS : Hid (w7.heap.size ≤ gv1) := by show _ ≤ _; rw [hgv1]; exact hHeld.size
        generalize hqv1 : World.alloc _ _ = v1
        have ev1 : wd.alloc (.cells (([] : List Value)).toArray 96 (0, 0)) = v1 := hqv1
        rw [ev1] at nf bb
        rw [← hgv1] at nf ⊢
        have FS := Lib.hid nf
        have hv1 := hHeld.trans (bb.mono hHeld.size)
        clear nf bb hqv1 ev1 hgv1 hHeld
        refine hK.out _ _ hv1 (fun hHeld => ?_)
        clear hK K hv1
        refine wpAnyH_ready (rs := [10]) (by kernel_rfl) (by simp) (held_cons rfl (fun K hK => ?_) AllReadyH.nil)
        rw [if_pos (by rfl)]
        refine wp_store_whole 96 (.tmp 4) (.tmp 41) rfl gv1 ([] : List Value) ([] : List Value) 96 rfl rfl (rfl) FS.out (by kernel_rfl) (by simp) ?_
        intro v2 q1 q2
        have FS := Lib.hid q1
        have hv2 := hHeld.grown q2 hHeld.size (fun k hk => by cases hk; exact GFS.out)
        clear q1 q2 hHeld
        go_frame
        refine hK.out _ _ hv2 (fun hHeld => ?_)
        clear hK K hv2
        refine held_take (i := 11) (v := (.bool q1)) rfl (by kernel_rfl) (by kernel_rfl) (by kernel_rfl) (fun _ _ _ h => h) (Or.inl ⟨by rfl, fun w' _ => by kernel_rfl⟩) hHeld ?_
        go_frame
        refine wpAnyH_done (by kernel_rfl) ?_ _
        obtain ⟨w8, hw8⟩ : ∃ w8, w8 = v2 := ⟨_, rfl⟩
        rw [← hw8] at  hHeld ⊢
        clear hw8
        have MA8 := Lib.hid (MA7.out.below hHeld)
        have HS8 := Lib.hid (HS7.out.below hHeld)
        have R8 := Lib.hid (R7.out.trans (BtR.below hHeld))
        have F38 := Lib.hid (row_below F3.out hHeld)
        clear hHeld FS LQ MA7 HS7 R7 F3
        cases q1 with
        | true =>
          have kle : k ≤ 4096 := by have := NB.out; omega
          go_wp2_with fail
          go_roundw
          case rel =>
            refine ⟨k + 1, lv, Mk, dk, by go_num, by have := HN.out; omega, MA8.out, MI.out, fun q hq => ?_, R8.out, HS8.out⟩
            rw [take_succ XK.out] at hq
            rcases List.mem_append.1 hq with h | h
            · exact MTK.out q h
            · rw [List.mem_singleton.1 h]; exact IQ.out.symm
          case measure => simp [intOf]; omega
        | false =>
          have PUT : Hid (putG Mk x.1 () = Mk ++ [(x.1, ())]) := by
            show _ = _
            unfold putG
            have h : (getG Mk x.1).isSome = false := IQ.out.symm
            rw [if_neg (by rw [h]; decide)]
          go_upto_region 6 with fail
          refine wp_region_end (fun w' => Below w8.heap.size w8 w') [6] (by kernel_rfl) (Below.drew (Below.refl _ _)) (fun hHeld => ?_)
          generalize hwd : w8.drew = wd at  hHeld ⊢
          clear hwd
          refine end_take (i := 0) (v := (.pointer (some ⟨b, 0, none⟩))) rfl (by kernel_rfl) (by kernel_rfl) (by kernel_rfl) (by kernel_rfl) (fun _ _ _ h => h) (Or.inl ⟨by rfl, fun w' _ => by kernel_rfl⟩) hHeld ?_
          go_frame
          refine end_take (i := 1) (v := (.pointer (some ⟨b, 0, none⟩))) rfl (by kernel_rfl) (by kernel_rfl) (by kernel_rfl) (by kernel_rfl) (fun _ _ _ h => h) (Or.inl ⟨by rfl, fun w' _ => by kernel_rfl⟩) hHeld ?_
          go_frame
          refine end_take (i := 2) (v := (.pointer (some ⟨b, 2, none⟩))) rfl (by kernel_rfl) (by kernel_rfl) (by kernel_rfl) (by kernel_rfl) (fun _ _ _ h => h) (Or.inl ⟨by rfl, fun w' _ => by kernel_rfl⟩) hHeld ?_
          go_frame
          refine end_take (i := 3) (v := (.map (some mm))) rfl (by kernel_rfl) (by kernel_rfl) (by kernel_rfl) (by kernel_rfl) (fun _ _ _ h => h) (yieldsIf_load_one (by rfl) 74 (.tmp 46) rfl b (2) rfl _ _ (fun w' hw' => (MA8.out.below hw').cells.2.2.1) Tryz.underlying74 rfl) hHeld ?_
          go_frame
          refine end_take (i := 4) (v := (.agg (x.1.map bV).toArray)) rfl (by kernel_rfl) (by kernel_rfl) (by kernel_rfl) (by kernel_rfl) (fun _ _ _ h => h) (yieldsIf_load_row (by rfl) 26 (.tmp 3) rfl g3 rfl 26 (x.1.map bV).toArray (0, 0) _ (fun w' hw' => row_below F38.out hw') Tryz.underlying26 rfl (by rw [SX.out]; kernel_rfl)) hHeld ?_
          go_frame
          refine end_take (i := 5) (v := (.agg #[])) rfl (by kernel_rfl) (by kernel_rfl) (by kernel_rfl) (by kernel_rfl) (fun _ _ _ h => h) (yieldsIf_build (by rfl) 96 _ rfl [] (by kernel_rfl) #[] (by kernel_rfl)) hHeld ?_
          go_frame
          refine end_last (i := 6) (by kernel_rfl) (by kernel_rfl) rfl (fun K hK => ?_)
          rw [if_pos (by rfl)]
          have MAa := Lib.hid (MA8.out.below hHeld)
          have Ra := Lib.hid (R8.out.trans (BtR.below hHeld))
          have HSa := Lib.hid (HS8.out.below hHeld)
          have F3a := Lib.hid (row_below F38.out hHeld)
          refine wp_put_gm mty_ids (.tmp 47) (.tmp 48) (.tmp 49) rfl x.1 x.2 () rfl rfl rfl MAa.out.met ?_
          intro v1 q1 q2
          have MA9 := Lib.hid (MAa.out.mets q1 q2)
          have R9 := Lib.hid (Ra.out.trans (BtR.grown q2 MAa.out.lo.2.2 (Or.inr rfl)))
          have HS9 := Lib.hid (HSa.out.grownMap MAa.out.met q2)
          have F39 := Lib.hid (row_map MAa.out.met q2 F3a.out)
          clear q1 q2 hHeld MAa Ra HSa F3a
          go_frame
          refine hK.out _ _ ?_
          clear hK K
          refine end_done (by kernel_rfl) ?_ _
          obtain ⟨w9, hw9⟩ : ∃ w9, w9 = v1 := ⟨_, rfl⟩
          rw [← hw9] at MA9 R9 HS9 F39 ⊢
          clear hw9
          have RN : Hid (Calls Tryz.prog 44 #[(.pointer (some ⟨b, 0, none⟩)), .agg (x.1.map bV).toArray] w9 fun e w' => e = .returned (.tuple #[.agg (rkL (rnkT (ndM M) x)).toArray, .bool (ofT (ndM M) x.1).2.2.2]) ∧ Below w9.heap.size w9 w') := bkrank_any w9 base b tb bm mm tbase tm lv B (putG Mk x.1 ()) dk M x MA9.out (HM.out.tree HT.out HNE.out.1 HNE.out.2 R9.out) TR.out
          have RID : Hid ((rnkT (ndM M) x).id.1 = x.1) := rfl
          have RWK : Hid ((rnkT (ndM M) x).work = (ofT (ndM M) x.1).2.2.1) := rfl
          have SR : Hid ((rkL (rnkT (ndM M) x)).toArray.size = 33) := rkL_size _
          have AR : Hid ((rkL (rnkT (ndM M) x)).toArray.all (·.oneCell') = true) := rkL_all _
          have PU : Hid (∀ W, MkAt W base b tb bm mm lv B (putG Mk x.1 ()) dk → base ≤ W.heap.size → Calls Tryz.prog 60 #[.iface 99 (.pointer (some ⟨b, 3, none⟩)), .iface 78 (.agg (rkL (rnkT (ndM M) x)).toArray)] W (HuP base b tb bm mm B (putG Mk x.1 ()) dk (rnkT (ndM M) x) W)) := fun W h hb => bkhpush_any W base b tb bm mm lv B _ dk _ h MI.out.heap (by have := DK.out; omega) hb
          obtain ⟨r, hr⟩ : ∃ r, r = rnkT (ndM M) x := ⟨_, rfl⟩
          rw [← hr] at RN RID RWK SR AR PU
          obtain ⟨cr, hcr⟩ : ∃ cr, cr = rkL r := ⟨_, rfl⟩
          rw [← hcr] at RN SR AR PU
          obtain ⟨bo, hbo⟩ : ∃ bo, bo = (ofT (ndM M) x.1).2.2.2 := ⟨_, rfl⟩
          rw [← hbo] at RN
          clear hr hcr hbo
          go_wp2_with ((with_reducible show wpList _ _ _ _ _ _); (refine wpList_load_row rfl 26 (.tmp 3) rfl g3 rfl 26 (x.1.map bV).toArray (0, 0) _ F39.out Tryz.underlying26 rfl (by rw [SX.out]; kernel_rfl) ?_; go_frame))
          refine RN.out.mono ?_
          rintro e wa ⟨rfl, bb⟩
          have MAa := Lib.hid (MA9.out.below bb)
          have Ra := Lib.hid (R9.out.trans (BtR.below bb))
          have HSa := Lib.hid (HS9.out.below bb)
          clear bb RN MA9 R9 HS9 F39
          go_upto_region 8 with ((with_reducible show wpList _ _ _ _ _ _); (refine wpList_store_row rfl 78 (.tmp 6) (.tmp 54) rfl wa.heap.size cr.toArray rfl rfl 78 _ (heap_alloc_new _ _) (by rw [SR.out]; kernel_rfl) (by rw [SR.out]; rfl) AR.out ?_; go_frame))
          obtain ⟨_, f2, f3, f4⟩ := fill_setup (Below.refl wa.heap.size wa) (Value.int .u64 0 :: List.replicate 32 (bV 0)).toArray cr.toArray 78
          generalize hqwc : World.setRow _ _ _ = wc
          have ewc : World.setRow (wa.alloc (.cells (Value.int .u64 0 :: List.replicate 32 (bV 0)).toArray 78)) wa.heap.size cr.toArray = wc := hqwc
          rw [ewc] at f2 f3 f4
          obtain ⟨g6, hg6⟩ : ∃ g6, g6 = wa.heap.size := ⟨_, rfl⟩
          rw [← hg6] at f2 ⊢
          have F6 := Lib.hid f2
          have Ng6 : Hid (wa.heap.size ≤ g6) := by show _ ≤ _; rw [hg6]; exact Nat.le_refl _
          have MAc := Lib.hid (MAa.out.below f4)
          have Rc := Lib.hid (Ra.out.trans (BtR.below f4))
          have HSc := Lib.hid (HSa.out.below f4)
          clear f2 f3 f4 hqwc ewc hg6
          clear MAa Ra HSa Ng6
          refine wp_region_end (fun w' => Below wc.heap.size wc w') [6] (by kernel_rfl) (Below.drew (Below.refl _ _)) (fun hHeld => ?_)
          generalize hwd : wc.drew = wd at  hHeld ⊢
          clear hwd
          refine end_take (i := 0) (v := (.pointer (some ⟨b, 0, none⟩))) rfl (by kernel_rfl) (by kernel_rfl) (by kernel_rfl) (by kernel_rfl) (fun _ _ _ h => h) (Or.inl ⟨by rfl, fun w' _ => by kernel_rfl⟩) hHeld ?_
          go_frame
          refine end_take (i := 1) (v := (.pointer (some ⟨b, 0, none⟩))) rfl (by kernel_rfl) (by kernel_rfl) (by kernel_rfl) (by kernel_rfl) (fun _ _ _ h => h) (Or.inl ⟨by rfl, fun w' _ => by kernel_rfl⟩) hHeld ?_
          go_frame
          refine end_take (i := 2) (v := (.pointer (some ⟨b, 3, none⟩))) rfl (by kernel_rfl) (by kernel_rfl) (by kernel_rfl) (by kernel_rfl) (fun _ _ _ h => h) (Or.inl ⟨by rfl, fun w' _ => by kernel_rfl⟩) hHeld ?_
          go_frame
          refine end_take (i := 3) (v := (.iface 99 (.pointer (some ⟨b, 3, none⟩)))) rfl (by kernel_rfl) (by kernel_rfl) (by kernel_rfl) (by kernel_rfl) (fun _ _ _ h => h) (Or.inl ⟨by rfl, fun w' _ => by kernel_rfl⟩) hHeld ?_
          go_frame
          refine end_take (i := 4) (v := (.agg cr.toArray)) rfl (by kernel_rfl) (by kernel_rfl) (by kernel_rfl) (by kernel_rfl) (fun _ _ _ h => h) (yieldsIf_load_row (by rfl) 78 (.tmp 6) rfl g6 rfl 78 cr.toArray (0, 0) _ (fun w' hw' => row_below F6.out hw') Tryz.underlying78 rfl (by rw [SR.out]; kernel_rfl)) hHeld ?_
          go_frame
          refine end_take (i := 5) (v := (.iface 78 (.agg cr.toArray))) rfl (by kernel_rfl) (by kernel_rfl) (by kernel_rfl) (by kernel_rfl) (fun _ _ _ h => h) (Or.inl ⟨by rfl, fun w' _ => by kernel_rfl⟩) hHeld ?_
          go_frame
          refine end_last (i := 6) (by kernel_rfl) (by kernel_rfl) rfl (fun K hK => ?_)
          go_simp
          have MAd := Lib.hid (MAc.out.below hHeld)
          have Rd := Lib.hid (Rc.out.trans (BtR.below hHeld))
          have HSd := Lib.hid (HSc.out.below hHeld)
          refine (PU.out wd MAd.out (Nat.le_trans HBS.out Rd.out.size)).mono ?_
          rintro e v1 ⟨rfl, d2, lv2, hpm, hsz, hhp, hma2, hht⟩
          have MAe := Lib.hid hma2
          have Re := Lib.hid (Rd.out.trans hht.bt)
          have HSe := Lib.hid (HSd.out.ht hht)
          have PMe := Lib.hid hpm
          have HPe := Lib.hid hhp
          clear hHeld MAd Rd HSd hpm hsz hhp hma2 hht
          go_wp2_with fail
          refine hK.out _ _ ?_
          clear hK K
          refine end_done (by kernel_rfl) ?_ _
          have kle : k ≤ 4096 := by have := NB.out; omega
          go_wp2_with fail
          go_roundw
          case rel =>
            refine ⟨k + 1, lv2, _, d2, by go_num, by have := HN.out; omega, MAe.out, ?_, fun q hq => ?_, Re.out, HSe.out⟩
            · obtain ⟨kx, y, _, hy, ey⟩ := found FX.out
              have e2 : x.1 = y.id := ey.symm
              refine MI.out.push (r := r) TR.out hy (by rw [RID.out]; exact e2) (by rw [RWK.out, ← ey, ofT_at TR.out hy]) PMe.out HPe.out (fun q hq => ?_) ?_
              · unfold inI at hq ⊢
                rw [getG_put] at hq
                by_cases e : q = x.1
                · exact Or.inl (e.trans e2)
                · rw [if_neg e] at hq
                  exact Or.inr hq
              · rw [PUT.out, List.length_append]; rfl
            · unfold inI
              rw [getG_put]
              rw [take_succ XK.out] at hq
              by_cases e : q = x.1
              · rw [if_pos e]; rfl
              · rw [if_neg e]
                rcases List.mem_append.1 hq with h | h
                · exact MTK.out q h
                · exact absurd (List.mem_singleton.1 h) e
          case measure => simp [intOf]; omega
      · have q0 : ¬ ((k : Int) < (n : Int)) := by omega
        have TK : Hid (l.take k = l) := List.take_of_length_le (by have := HN.out; omega)
        go_wp2_with fail
        go_end0
        refine ⟨rfl, lv, Mk, dk, MA.out, MI.out, fun q hq => MTK.out q ?_, RK.out⟩
        rw [TK.out]
        exact HPM.out.mem_iff.2 (US.out q hq)
end Go.Proofs.YtdhcjaflbfpalaaGreatDoor.Sha

/-
  Which block is best: what came is put into the ranks, what is marked goes from their top. Conditions: the marks lie where the pointer says, over a tree whose nodes hang on one another; the ranks hold what they should of those that were met.
-/
namespace Go.Proofs.YtdhcjaflbfpalaaGreatDoor.Sha
open Go Go.RowKit
/-- What Best leaves. -/
def BsP (base b tb bm mm : Nat) (B : IdSet) (L : List TNd) (w : World) (e : Ending) (w' : World) : Prop :=
  ∃ (top : OH) (lv' : Value) (Mt' : IdSet) (d' : Array Rk), e = .returned (.agg (top.1.map bV).toArray) ∧ BestP L B top ∧ MkAt w' base b tb bm mm lv' B Mt' d' ∧ MkI L B Mt' d' ∧ BtR base bm mm w w'
def BsLoop (base b tb bm mm : Nat) (B Mt : IdSet) (L : List TNd) (g2 : Nat) (w : World) (n : Nat) (wr : World) : Prop :=
  ∃ (lv : Value) (d : Array Rk), d.size = n ∧ MkAt wr base b tb bm mm lv B Mt d ∧ MkI L B Mt d ∧ BtR base bm mm w wr ∧ wr.heap[g2]? = some (.cells (List.replicate 32 (bV 0)).toArray 26 (0, 0))
theorem MkI.pos {L : List TNd} {B Mt : IdSet} {d : Array Rk} (h : MkI L B Mt d) (ht : TrL L) (hall : ∀ q, 0 ≤ findT L q → inI Mt q = true) : 0 < d.size := by
  obtain ⟨_, l0⟩ := ht.start
  have e0 := findT_id ht l0
  obtain ⟨r, hr, _⟩ := (h.met _ (hall _ (by rw [e0]; exact Int.le_refl _))).2 (start_free ht l0)
  have := List.length_pos_of_mem hr
  simpa using this
set_option maxHeartbeats 4000000 in
set_option maxRecDepth 100000 in
theorem bkbest_any (w : World) (base b tb bm mm tbase tm : Nat) (lv0 : Value) (B Mt0 : IdSet) (d0 : Array Rk) (M : List CNd) (hm : MkAt w base b tb bm mm lv0 B Mt0 d0) (hi : MkI (ndM M) B Mt0 d0) (ht : CtAt w tbase tb tm M) (tr : TrL (ndM M)) (hh : Hung (ndM M)) (hne : tm ≠ bm ∧ tm ≠ mm) (hbs : base ≤ w.heap.size) :
    Calls Tryz.prog 18 #[(.pointer (some ⟨b, 0, none⟩))] w (BsP base b tb bm mm B (ndM M) w) := by
  have HM := Lib.hid hm
  have HI := Lib.hid hi
  have TR := Lib.hid tr
  have HH := Lib.hid hh
  have HT := Lib.hid ht
  have HNE := Lib.hid hne
  have HBS := Lib.hid hbs
  clear hm hi tr hh ht hne hbs
  go_enter Tryz.func18, Tryz.ntmps18
  go_upto_region 1 with fail
  have f0 := heap_alloc_new w (.cells (List.replicate 32 (bV 0)).toArray 26 (0, 0))
  have bb : Below w.heap.size w (w.alloc (.cells (List.replicate 32 (bV 0)).toArray 26 (0, 0))) := ((Below.refl w.heap.size w).alloc (by first | exact Nat.le_refl _ | (simp only [World.size_alloc]; omega)) (.cells (List.replicate 32 (bV 0)).toArray 26 (0, 0)))
  generalize hq : World.alloc _ _ = w1
  have eq : w.alloc (.cells (List.replicate 32 (bV 0)).toArray 26 (0, 0)) = w1 := hq
  rw [eq] at f0 bb
  obtain ⟨g2, hg2⟩ : ∃ g2, g2 = w.heap.size := ⟨_, rfl⟩
  have Gg2 : Hid (w.heap.size ≤ g2) := by show _ ≤ _; omega
  rw [← hg2] at f0 ⊢
  have F2 := Lib.hid f0
  have B1 := Lib.hid bb
  clear f0 bb hq eq hg2
  go_wp2_with fail
  refine (bkmeet_any w1 base b tb bm mm tbase tm lv0 B Mt0 d0 M (HM.out.below B1.out) HI.out (HT.out.below B1.out) TR.out HNE.out (Nat.le_trans HBS.out B1.out.size)).mono ?_
  rintro e w2 ⟨rfl, lv1, Mt, d1, hma, hmi, hal, hrr⟩
  have AL := Lib.hid hal
  have F22 := Lib.hid (row_kps F2.out hrr ((HM.out.below B1.out).rowF F2.out (by decide) (by decide)))
  have R2 := Lib.hid ((BtR.below (base := base) (bm := bm) (mm := mm) B1.out).trans hrr)
  have MA2 := Lib.hid hma
  have MI2 := Lib.hid hmi
  obtain ⟨n1, hn1⟩ : ∃ n1, n1 = d1.size := ⟨_, rfl⟩
  have N1 := Lib.hid hn1
  clear hma hmi hal hrr F2 B1 hn1
  go_wp2_with fail
  go_loopg [14] n1 (fun n v wr => BsLoop base b tb bm mm B Mt (ndM M) g2 w n wr)
  case atStart => exact ⟨lv1, d1, N1.out.symm, MA2.out, MI2.out, R2.out, F22.out⟩
  case round =>
    clear MA2 MI2 R2 F22 N1
    obtain ⟨lv, d, hn, hma, hmi, hrr, hf⟩ := hrel
    have hpos := hmi.pos TR.out AL.out
    obtain ⟨n, rfl⟩ : ∃ n, gk = n + 1 := ⟨gk - 1, by omega⟩
    have hdk : d.size ≤ 4096 := Nat.le_trans hmi.sz (Nat.le_trans (hmi.le hma.met.apart) TR.out.le)
    obtain ⟨g, cap, rfl, hgb, gb, gm, gn, hcap⟩ := hma.shape hpos
    have RI : Hid (wr.rangeAt g 1 (d[0]!.id.1.map bV)) := by
      obtain ⟨b', o', e, hg⟩ := (hma.row.at (by decide)).get hpos
      cases e
      have := (rkL_get (hg 0 _ (rk_at hpos))).2
      have h2 : wr.rangeAt g 1 (d[0]!.id.1.map bV) := by simpa using this
      exact h2
    have MA := Lib.hid hma
    have MI := Lib.hid hmi
    have RK := Lib.hid hrr
    have FK := Lib.hid hf
    have DN := Lib.hid hn
    have DK := Lib.hid hdk
    have LI : Hid ((d[0]!.id.1.map bV).length = 32) := by show _ = _; rw [List.length_map]; exact d[0]!.id.2
    have SI : Hid ((d[0]!.id.1.map bV).toArray.size = 32) := by show _ = _; rw [List.size_toArray]; exact LI.out
    have AI : Hid ((d[0]!.id.1.map bV).toArray.all (·.oneCell') = true) := bV_one _
    have IS : Hid (Calls Tryz.prog 20 #[(.pointer (some ⟨b, 0, none⟩)), .agg (d[0]!.id.1.map bV).toArray] wr fun e w' => e = .returned (.bool (isM (ndM M) B d[0]!.id.1)) ∧ Below wr.heap.size wr w') := bkis_any wr base b tb bm mm tbase tm _ B Mt d M _ hma (HM.out.tree HT.out HNE.out.1 HNE.out.2 hrr) TR.out d[0]!.id.2
    obtain ⟨im, him⟩ : ∃ im, im = isM (ndM M) B d[0]!.id.1 := ⟨_, rfl⟩
    rw [← him] at IS
    have IM := Lib.hid him
    rw [hn] at hcap
    have c3 := hma.cells.2.2.2.1
    rw [hn] at c3
    have np : (0 : Int) < ((n + 1 : Nat) : Int) := by omega
    have CC := Lib.hid c3
    obtain ⟨top, htop⟩ : ∃ top, top = d[0]!.id := ⟨_, rfl⟩
    rw [← htop] at RI LI SI AI IS
    have TP := Lib.hid htop
    clear hma hmi hrr hf hn hdk hpos him hgb gb gm gn hcap htop
    go_wp2_with ((with_reducible show wpList _ _ _ _ _ _); (refine wpList_load_mid rfl 26 (.tmp 12) rfl g 1 rfl (top.1.map bV) _ RI.out Tryz.underlying26 rfl (by rw [LI.out]; kernel_rfl) ?_; go_frame))
    refine IS.out.mono ?_
    rintro e w3 ⟨rfl, bb⟩
    have MA3 := Lib.hid (MA.out.below bb)
    have R3 := Lib.hid (RK.out.trans (BtR.below bb))
    have F3 := Lib.hid (row_below FK.out bb)
    have RI3 := Lib.hid (range_below RI.out bb)
    have c4 := cell_below CC.out bb
    clear bb IS MA RK FK RI CC c3
    cases im with
    | true =>
      clear c4
      go_wp2_with fail
      refine (bkhpop_any w3 base b tb bm mm _ B Mt d n MA3.out MI.out.heap DN.out (by have := DK.out; omega) (Nat.le_trans HBS.out R3.out.size)).mono ?_
      rintro e w4 ⟨rfl, d2, lv2, hpm, hsz, hhp, hma2, hht⟩
      have MA4 := Lib.hid hma2
      have MI4 := Lib.hid (MI.out.pop hpm (IM.out.symm) hhp)
      have R4 := Lib.hid (R3.out.trans hht.bt)
      have F4 := Lib.hid (row_kps F3.out hht (HtR.rowF F3.out (by decide) (by decide)))
      have SZ := Lib.hid hsz
      clear hpm hsz hhp hma2 hht
      go_wp2_with fail
      go_roundg n
      case measure => omega
      case rel => exact ⟨lv2, d2, by have := SZ.out; have := DN.out; omega, MA4.out, MI4.out, R4.out, F4.out⟩
    | false =>
      go_upto_region 4 with fail
      go_wp2_with ((with_reducible show wpList _ _ _ _ _ _); first | (refine wpList_load_mid rfl 26 (.tmp 26) rfl g 1 rfl (top.1.map bV) _ RI3.out Tryz.underlying26 rfl (by rw [LI.out]; kernel_rfl) ?_; go_frame) | (refine wpList_store_row rfl 26 (.tmp 2) (.tmp 27) rfl g2 (top.1.map bV).toArray rfl rfl 26 _ F3.out (by rw [SI.out]; kernel_rfl) (by rw [SI.out]; rfl) AI.out ?_; go_frame))
      refine bodyPost_ret (results_cell_row rfl _ _ g2 26 (top.1.map bV).toArray (0, 0) _ rfl (setRow_heap _ _ _ _ _ _ F3.out) Tryz.underlying26 rfl (by rw [SI.out]; kernel_rfl)) rfl ?_
      have BP : BestP (ndM M) B top := by
        rw [TP.out]
        exact MI.out.best TR.out AL.out (by have := DN.out; omega) (IM.out.symm)
      have hg : w3.grownBy (w3.setRow g2 (top.1.map bV).toArray) (some g2) := setRow_grown _
      have hk : Kps (fun j => j ≠ g2) w3 (w3.setRow g2 (top.1.map bV).toArray) := Kps.grown hg fun j _ hf e => hf (Option.some.inj e)
      refine ⟨top, _, Mt, d, rfl, BP, MA3.out.kps hk ?_ ?_ ?_ ?_, MI.out, ?_⟩
      · intro e
        have h := MA3.out.box
        rw [e, F3.out] at h
        exact absurd (Obj.cells.inj (Option.some.inj h)).2.1 (by decide)
      · exact fun e => MA3.out.bad.ne' F3.out e.symm
      · exact fun e => MA3.out.met.ne' F3.out e.symm
      · exact fun q hq e => own_ne' MA3.out.row.1 F3.out (by decide) (by rw [hq, e])
      · have G2 := Gg2.out
        exact ⟨hg.os.trans R3.out.os, hg.tape.trans R3.out.tape, hg.output.trans R3.out.output, Nat.le_trans R3.out.size hg.size, fun j hj hf => (hg.block j (Nat.lt_of_lt_of_le hj R3.out.size) (fun e => by have := Option.some.inj e; omega)).trans (R3.out.block j hj hf)⟩
end Go.Proofs.YtdhcjaflbfpalaaGreatDoor.Sha

/-
  The statements' own digests of transactions. New memory; nothing that was there turns. Condition: transactions of a few inputs and outputs that lie in memory.
-/
namespace Go.Proofs.YtdhcjaflbfpalaaGreatDoor.Sha
open Go Go.RowKit
set_option maxHeartbeats 1000000 in
set_option maxRecDepth 100000 in
theorem rid_any (t : TTx) (v : Value) (w : World) (h1 : TxAt w v t) (hs : TxSmall t) :
    Calls Tryz.prog 72 #[v] w fun e w' => e = .returned (.agg ((sha (sha (txB t))).map bV).toArray) ∧ Below w.heap.size w w' := by
  have H1 := Lib.hid h1
  obtain ⟨_, iv, ov, rfl, h2, h3⟩ := h1
  have TL : Hid ((txB t).length ≤ 35184372088832) := hs.len
  have TB : Hid (∀ W, Below w.heap.size w W → Calls Tryz.prog 98 #[.agg (txL t iv ov).toArray] W fun e w' => ∃ v', e = .returned v' ∧ w'.ownsRow W.heap.size 5 1 v' (txB t).length ((txB t).map bV) ∧ Below W.heap.size W w') :=
    fun W hW => rtxb_any t _ W (H1.out.below hW) hs.ins hs.outs (Nat.le_trans hs.2.1 (by omega)) (Nat.le_trans hs.2.2.1 (by omega))
  have LC' : Hid ((txL t iv ov).toArray.size = 4) := rfl
  obtain ⟨ct, hct⟩ : ∃ ct, ct = txL t iv ov := ⟨_, rfl⟩
  rw [← hct] at TB LC' ⊢
  obtain ⟨dg, hdg⟩ : ∃ dg, dg = ((sha (sha (txB t))).map bV).toArray := ⟨_, rfl⟩
  have HOne : Hid (dg.all (·.oneCell') = true) := by show _ = _; rw [hdg]; exact bV_one _
  have HLen : Hid (dg.size = 32) := by show _ = _; rw [hdg]; simp [sha_length]
  have TW : Hid (∀ W sp n cap, SrcB W (.slice sp n cap) (txB t) → n ≤ 35184372088832 → Calls Tryz.prog 34 #[.slice sp n cap] W fun e w' => e = .returned (.agg dg) ∧ Below W.heap.size W w') := fun W sp n cap h1 h2 => by rw [hdg]; exact ref_twice (txB t) sp n cap W h1 h2
  rw [← hdg]
  clear hdg hct h2 h3
  go_enter Tryz.func72, Tryz.ntmps72
  go_upto_region 1 with fail
  have f1 := row_below (heap_alloc_new w (.cells ct.toArray 63 (0, 0))) ((Below.refl _ _).alloc (Nat.le_refl _) (.cells (List.replicate 32 (bV 0)).toArray 26))
  have f2 := heap_alloc_new (w.alloc (.cells ct.toArray 63 (0, 0))) (.cells (List.replicate 32 (bV 0)).toArray 26)
  have b1 := ((Below.refl w.heap.size w).alloc (Nat.le_refl _) (.cells ct.toArray 63 (0, 0))).alloc (by simp) (.cells (List.replicate 32 (bV 0)).toArray 26)
  rw [World.size_alloc] at f2
  generalize hw1 : World.alloc _ _ = w1
  have e1 : (w.alloc (.cells ct.toArray 63 (0, 0))).alloc (.cells (List.replicate 32 (bV 0)).toArray 26) = w1 := hw1
  rw [e1] at f1 f2 b1
  have F1 := Lib.hid f1
  have F2 := Lib.hid f2
  have B1 := Lib.hid b1
  clear f1 f2 b1 hw1 e1
  go_wp2_with ((with_reducible show wpList _ _ _ _ _ _); refine wpList_load_row rfl 63 (.tmp 1) rfl w.heap.size rfl 63 ct.toArray (0, 0) _ F1.out Tryz.underlying63 rfl (by rw [LC'.out]; kernel_rfl) ?_; go_frame)
  refine (TB.out w1 B1.out).mono ?_
  rintro e w2 ⟨v2, rfl, ho, hb2⟩
  have S2 := Lib.hid (src_own ho)
  obtain ⟨s2, n2, c2, rfl, hn2, _⟩ := (src_own ho).shape'
  have HN : Hid (n2 ≤ 35184372088832) := by show _ ≤ _; rw [hn2]; exact TL.out
  have B2 := Lib.hid (B1.out.trans (hb2.mono B1.out.size))
  have F2 := Lib.hid (row_below F2.out hb2)
  clear ho hb2 hn2
  go_wp2_with fail
  refine (TW.out w2 _ _ _ S2.out HN.out).mono ?_
  rintro e w3 ⟨rfl, hb3⟩
  have B3 := Lib.hid (B2.out.trans (hb3.mono B2.out.size))
  have F3 := Lib.hid (row_below F2.out hb3)
  clear hb3
  go_wp2_with ((with_reducible show wpList _ _ _ _ _ _); refine wpList_store_row rfl 26 (.tmp 2) (.tmp 5) rfl (w.heap.size + 1) dg rfl rfl 26 _ F3.out (by rw [HLen.out]; kernel_rfl) (by rw [HLen.out]; rfl) HOne.out ?_; go_frame)
  refine bodyPost_ret (results_cell_row rfl _ _ (w.heap.size + 1) 26 dg (0, 0) (.array 32 5) rfl (setRow_heap _ _ _ _ _ _ F3.out) Tryz.underlying26 rfl (by rw [HLen.out]; kernel_rfl)) rfl ⟨rfl, below_setRow B3.out (Nat.le_succ _) _⟩
def RiInv (n : Nat) (l : List TTx) (w1 : World) (vb vi : Value) (wr : World) : Prop :=
  ∃ (k : Nat) (vq : Value), vq = vb ∧ k ≤ n ∧ vi = .int .i64 k ∧ HsOwn w1.heap.size wr vq (idsL (l.take k)) ∧ Below w1.heap.size w1 wr
set_option maxHeartbeats 2000000 in
set_option maxRecDepth 100000 in
theorem rids_any (l : List TTx) (v : Value) (w : World) (h1 : TxsAt w v l) (hs : ∀ t ∈ l, TxSmall t) (hl : l.length ≤ 1000) :
    Calls Tryz.prog 50 #[v] w fun e w' => ∃ v', e = .returned v' ∧ HsOwn w.heap.size w' v' (idsL l) ∧ Below w.heap.size w w' := by
  obtain ⟨i0, hi, hz0, hz1, hz2⟩ := info_parts info_hash
  obtain ⟨sp, cap, rfl⟩ := h1.shape
  obtain ⟨n, hn⟩ : ∃ n, n = l.length := ⟨_, rfl⟩
  rw [← hn] at h1 ⊢
  have HT := Lib.hid h1
  have NN := Lib.hid hn
  have TS := Lib.hid hs
  have bn : n ≤ 1000 := by rw [hn]; exact hl
  clear h1 hn hs hl
  go_enter Tryz.func50, Tryz.ntmps50
  go_wp2_with fail
  go_loopw [3, 4] (fun vb vi wr => RiInv n l w vb vi wr) (fun _ i _ => n - (intOf i).toNat)
  case atStart => exact ⟨0, _, rfl, by omega, rfl, HsOwn.nil _ _, Below.refl _ _⟩
  case round =>
    obtain ⟨k, vb, rfl, hk, rfl, HO, B⟩ := hrel
    have HO := Lib.hid HO
    have B := Lib.hid B
    by_cases hlt : k < n
    · obtain ⟨b, o, hs1, _, hg⟩ := HT.out.get (by omega)
      obtain ⟨t, hgt⟩ : ∃ t, l[k]? = some t := ⟨_, List.getElem?_eq_getElem (by have := NN.out; omega)⟩
      obtain ⟨iv, ov, hr, hta⟩ := hg k t hgt
      have LC : Hid ((txL t iv ov).length = 4) := rfl
      obtain ⟨ct, hct⟩ : ∃ ct, ct = txL t iv ov := ⟨_, rfl⟩
      rw [← hct] at hr hta LC
      have R := Lib.hid (range_below hr B.out)
      obtain ⟨d, hd⟩ : ∃ d, d = sha (sha (txB t)) := ⟨_, rfl⟩
      have LD : Hid (d.length = 32) := by show _ = _; rw [hd]; exact sha_length _
      have LX : Hid ((d.map bV).length = 32) := by show _ = _; rw [List.length_map, LD.out]
      have IDC : Hid (Calls Tryz.prog 72 #[.agg ct.toArray] wr fun e w' => e = .returned (.agg (d.map bV).toArray) ∧ Below wr.heap.size wr w') := by
        rw [hd]
        exact rid_any t _ wr (hta.below B.out) (TS.out t (List.mem_of_getElem? hgt))
      have HTL : Hid ((idsL (l.take k)).length ≤ 1048576) := by show _ ≤ _; rw [idsL_length, List.length_take]; omega
      have GT := Lib.hid hgt
      have HD := Lib.hid hd
      have p0 : 0 ≤ (k : Int) := by omega
      have q0 : (k : Int) < (n : Int) := by omega
      subst hs1
      clear hg hgt hr hta hct hd
      go_wp2_with ((with_reducible show wpList _ _ _ _ _ _); (refine wpList_load_mid rfl 63 (.tmp 14) rfl b (o + k * 4) rfl ct _ R.out Tryz.underlying63 rfl (by rw [LC.out]; kernel_rfl) ?_; go_frame))
      refine IDC.out.mono ?_
      rintro e w6 ⟨rfl, hb6⟩
      have HO6 := Lib.hid (HO.out.keep hb6)
      have B6 := Lib.hid (B.out.trans (hb6.mono B.out.size))
      clear hb6 HO IDC
      go_wp2_with (first | ((with_reducible show wpList _ _ _ _ _ _); (refine wpList_slice_one rfl 52 26 (.tmp 16) rfl (d.map bV) rfl Tryz.underlying52 i0 _ hi hz0 (by rw [hz1, LX.out]) (by rw [LX.out]; omega) (by rw [LX.out]; omega) ?_; have nf := heap_alloc_new w6 (.cells ((d.map bV)).toArray 26 (0, 0)); have bb := (Below.refl w6.heap.size w6).alloc (Nat.le_refl _) (.cells ((d.map bV)).toArray 26 (0, 0)); obtain ⟨gn, hgn⟩ : ∃ g, g = w6.heap.size := ⟨_, rfl⟩; generalize hq : World.alloc _ _ = w7; have e2 : w6.alloc (.cells ((d.map bV)).toArray 26 (0, 0)) = w7 := hq; rw [e2] at nf bb; rw [← hgn] at nf ⊢; have NF := Lib.hid nf; have B7 := Lib.hid (B6.out.trans (bb.mono B6.out.size)); have HO7 := Lib.hid (HO6.out.keep bb); clear nf bb hq e2 hgn; go_frame)) | (at_builtin; refine wpList_append_own_at _ rfl _ _ 52 rfl w.heap.size 26 i0 (.agg (List.replicate 32 (bV 0)).toArray) 32 32 Tryz.underlying52 hi hz0 hz1 hz2 (by kernel_rfl) (by decide) vb _ (hsL (idsL (l.take k))) rfl HO7.out.1 ⟨gn, 0, none⟩ 1 1 (d.map bV) rfl (by rw [LX.out]) (hs_one NF.out) (bV_one' _) (by have := HTL.out; unfold maxLen; omega) (by have := HTL.out; omega) B7.out.size ?_; intro v8 w8 q1 q2 _ q4; have HO8 := Lib.hid (HsOwn.push (base := w.heap.size) HO7.out.2 LD.out q1); have B8 := Lib.hid (own_grown B7.out (Nat.le_refl _) B7.out.size HO7.out.1 q2); clear q1 q2 q4; go_frame))
      go_roundw
      case rel => exact ⟨k + 1, _, rfl, by omega, by go_num, by rw [idsL_snoc GT.out, ← HD.out]; exact HO8.out, B8.out⟩
      case measure => simp [intOf]; omega
    · have hkn : k = n := by omega
      have hge : ¬ (k : Int) < (n : Int) := by omega
      have HF : Hid (HsOwn w.heap.size wr vb (idsL l)) := by
        have h := HO.out
        rw [hkn, NN.out, List.take_length] at h
        exact h
      clear HO hkn
      go_wp2_with fail
      go_ret
      exact ⟨_, rfl, HF.out, B.out⟩
end Go.Proofs.YtdhcjaflbfpalaaGreatDoor.Sha

/-
  The statements' own pair: the digest above two. Nothing that was there turns. No conditions.
-/
namespace Go.Proofs.YtdhcjaflbfpalaaGreatDoor.Sha
open Go Go.RowKit
set_option maxHeartbeats 2000000 in
set_option maxRecDepth 100000 in
theorem pair_any (a b : List UInt8) (ha : a.length = 32) (hb : b.length = 32) (w : World) :
    Calls Tryz.prog 97 #[.agg (a.map bV).toArray, .agg (b.map bV).toArray] w fun e w' => e = .returned (.agg ((prH a b).map bV).toArray) ∧ Below w.heap.size w w' := by
  obtain ⟨i0, hi, hz0, hz1, hz2⟩ := info_parts info_u8
  have HA := Lib.hid ha
  have HB := Lib.hid hb
  have HOne := Lib.hid (bV_one (prH a b))
  have HLen : Hid ((((prH a b).map bV).toArray).size = 32) := by show _ = _; simp [prH_length]
  obtain ⟨dg, hdg⟩ : ∃ dg, dg = ((prH a b).map bV).toArray := ⟨_, rfl⟩
  rw [← hdg] at HOne HLen ⊢
  have HD := Lib.hid hdg
  clear hdg ha hb
  go_enter Tryz.func97, Tryz.ntmps97
  go_upto_region 1 with fail
  obtain ⟨b1, f1, f2, f3⟩ := boxes_two_zero w (a.map bV).toArray (b.map bV).toArray (List.replicate 32 (bV 0)).toArray 26
  generalize hw1 : World.alloc _ _ = w1
  have e1 : ((w.alloc (.cells (a.map bV).toArray 26 (0, 0))).alloc (.cells (b.map bV).toArray 26 (0, 0))).alloc (.cells (List.replicate 32 (bV 0)).toArray 26 (0, 0)) = w1 := hw1
  rw [e1] at b1 f1 f2 f3
  clear hw1 e1
  have F1 := Lib.hid f1
  have F2 := Lib.hid f2
  have F3 := Lib.hid f3
  have B1 := Lib.hid b1
  clear f1 f2 f3 b1
  refine wp_region_held_drew (S := (fun _ => True)) (by kernel_rfl) trivial (fun hHeld => ?_)
  have bb := Below.drew (Below.refl w1.heap.size w1)
  generalize hw2 : w1.drew = w2
  rw [hw2] at bb
  have F1 := Lib.hid (row_below F1.out bb)
  have F2 := Lib.hid (row_below F2.out bb)
  have F3 := Lib.hid (row_below F3.out bb)
  have B2 := Lib.hid (B1.out.trans (bb.mono B1.out.size))
  have B2G : Hid (w.heap.size + 2 < w2.heap.size) := by show _ < _; exact (Array.getElem?_eq_some_iff.1 F3.out).1
  clear hw2 bb B1
  refine held_take (i := 0) (v := (.slice (some ⟨w.heap.size, 0, none⟩) 32 32)) rfl (by kernel_rfl) (by kernel_rfl) (by kernel_rfl) (fun _ _ _ h => h) (Or.inl ⟨by rfl, fun w' _ => by kernel_rfl⟩) hHeld ?_
  go_frame
  refine held_take (i := 2) (v := (.slice (some ⟨w.heap.size + 1, 0, none⟩) 32 32)) rfl (by kernel_rfl) (by kernel_rfl) (by kernel_rfl) (fun _ _ _ h => h) (Or.inl ⟨by rfl, fun w' _ => by kernel_rfl⟩) hHeld ?_
  go_frame
  refine wpAnyH_ready (rs := [1]) (by kernel_rfl) (by simp) (held_cons rfl (fun K hK => ?_) AllReadyH.nil)
  go_simp
  refine (bytes_copy_any a _ 32 32 w2 (src_block HA.out F1.out) (by omega)).mono ?_
  rintro e w3 ⟨rfl, ho, bb⟩
  have HO := Lib.hid ho
  have F2 := Lib.hid (row_below F2.out bb)
  have F3 := Lib.hid (row_below F3.out bb)
  have B3 := Lib.hid (B2.out.trans (bb.mono B2.out.size))
  have S23 := Lib.hid bb.size
  have g2lt : w.heap.size + 2 < w2.heap.size := by have := B2G.out; omega
  clear ho bb F1
  go_wp2_with fail
  refine hK.out _ _ trivial (fun hHeld => ?_)
  clear hK K
  refine wpAnyH_ready (rs := [3]) (by kernel_rfl) (by simp) (held_cons rfl (fun K hK => ?_) AllReadyH.nil)
  rw [if_pos (by rfl)]
  refine wp_append_row w3 (.tmp 6) (.tmp 7) 89 rfl w2.heap.size 5 i0 (.int .u8 0) 1 1 Tryz.underlying89 hi hz0 hz1 hz2 (by kernel_rfl) (by decide) (.slice (some ⟨w2.heap.size, 0, none⟩) 32 32) 32 (a.map bV) rfl HO.out ⟨w.heap.size + 1, 0, none⟩ 32 32 (b.map bV) rfl (by rw [List.length_map, HB.out]) (hs_one F2.out) (bV_one' _) (by unfold maxLen; omega) (by omega) S23.out ?_
  intro v4 w4 q1 q2 q3
  obtain ⟨g4, c4, hv4, hg4, hc4⟩ := own_shape q1 (by omega)
  subst hv4
  have q1' : w4.ownsRow w2.heap.size 5 1 (.slice (some ⟨g4, 0, none⟩) 64 c4) 64 ((a ++ b).map bV) := by rw [List.map_append]; exact q1
  have S4 := Lib.hid (src_own q1')
  have q2' : w3.grownBy w4 (some w2.heap.size) := q2
  have F3 := Lib.hid (row_far F3.out q2' (fun e => by have := Option.some.inj e; omega))
  have B4 := Lib.hid (B3.out.grown q2' B3.out.size (fun k hk => by cases hk; exact B2.out.size))
  clear q1 q2 q3 q1' q2' hg4 hc4 B3 F2 HO
  go_frame
  refine hK.out _ _ trivial (fun hHeld => ?_)
  clear hK K
  refine wpAnyH_ready (rs := [4]) (by kernel_rfl) (by simp) (held_cons rfl (fun K hK => ?_) AllReadyH.nil)
  go_simp
  have TW := ref_twice (a ++ b) (some ⟨g4, 0, none⟩) 64 c4 w4 S4.out (by omega)
  rw [show sha (sha (a ++ b)) = prH a b from rfl, ← HD.out] at TW
  refine TW.mono ?_
  clear TW
  rintro e w5 ⟨rfl, bb⟩
  have F3 := Lib.hid (row_below F3.out bb)
  have B5 := Lib.hid (B4.out.trans (bb.mono B4.out.size))
  clear bb B4 S4
  go_wp2_with fail
  refine hK.out _ _ trivial (fun hHeld => ?_)
  clear hK K
  refine wpAnyH_ready (rs := [5]) (by kernel_rfl) (by simp) (held_cons rfl (fun K hK => ?_) AllReadyH.nil)
  rw [if_pos (by rfl)]
  refine wp_store_part 26 (.tmp 4) (.tmp 9) rfl (w.heap.size + 2) 0 [] (List.replicate 32 (bV 0)) [] dg.toList 26 (.agg dg) rfl rfl (by simp [Value.cells]) rfl (by simp [HLen.out]) (by simpa using F3.out) (by rw [Array.length_toList, HLen.out]; kernel_rfl) (one_list HOne.out) ?_
  intro w6 q1 q2
  have f6 : w6.heap[w.heap.size + 2]? = some (.cells dg 26 (0, 0)) := by simpa using q1
  have F6 := Lib.hid f6
  have B6 := Lib.hid (B5.out.grown q2 B5.out.size (fun k hk => by cases hk; omega))
  clear q1 q2 f6
  go_frame
  refine hK.out _ _ trivial (fun hHeld => ?_)
  clear hK K
  refine wpAnyH_done (by kernel_rfl) ?_ _
  clear hHeld
  go_wp2_with fail
  refine bodyPost_ret (results_cell_row rfl _ _ (w.heap.size + 2) 26 dg (0, 0) (.array 32 5) rfl F6.out Tryz.underlying26 rfl (by rw [HLen.out]; kernel_rfl)) rfl ⟨rfl, B6.out⟩
end Go.Proofs.YtdhcjaflbfpalaaGreatDoor.Sha

/-
  The row above a row of digests: package merkle's, and the statements' own. New memory; nothing that was there turns. Conditions: the digests lie where the slice says; for package merkle's the table is there.
-/
namespace Go.Proofs.YtdhcjaflbfpalaaGreatDoor.Sha
open Go Go.RowKit
set_option maxHeartbeats 4000000 in
set_option maxRecDepth 100000 in
theorem row_ref (l : List (List UInt8)) (sp : Option Addr) (n cap : Nat) (w : World) (hl : HsAt w (.slice sp n cap) l) (hn : n ≤ 1048576) :
    Calls Tryz.prog 71 #[.slice sp n cap] w fun e w' => ∃ v, e = .returned v ∧ HsOwn w.heap.size w' v (rowL prH l) ∧ Below w.heap.size w w' := by
  obtain ⟨i0, hi, hz0, hz1, hz2⟩ := info_parts info_hash
  have hln := hl.len
  have hok := hl.1
  have HOK := Lib.hid hok
  have HLN := Lib.hid hln.1
  have HL := Lib.hid hl
  have LROW := Lib.hid (rowL_length prH l)
  obtain ⟨m, hm⟩ : ∃ m, m = (n + 1) / 2 := ⟨_, rfl⟩
  have hmb : m ≤ 1048576 := by omega
  have hm2 : 2 * m = n ∨ 2 * m = n + 1 := by omega

  have HMM := Lib.hid hm
  clear hl hln hok hm
  go_enter Tryz.func71, Tryz.ntmps71
  have HB0 := Lib.hid (Below.refl w.heap.size w)
  have HST : Hid (HsOwn w.heap.size w (.slice none 0 0) ((rowL prH l).take 0)) := HsOwn.nil _ _
  go_wp2_with fail
  go_loopw [3, 4] (fun vs vi wr => RaInv l n w vs vi wr) (fun _ vi _ => n + 1 - (intOf vi).toNat)
  case atStart => exact ⟨0, 0, _, rfl, by omega, by omega, rfl, HST.out, HB0.out⟩
  case round =>
    clear HST HB0
    obtain ⟨k, j, vb, rfl, hj1, hj, rfl, ho, hb⟩ := hrel
    have HO := Lib.hid ho
    have HB := Lib.hid hb
    have HJ := Lib.hid hj
    clear ho hb
    by_cases hlt : j < n
    · obtain ⟨b, o, rfl, hbw, hg⟩ := HL.out.get (by omega)
      obtain ⟨p, hp⟩ : ∃ p, p = otherN j n := ⟨_, rfl⟩
      have hpn : p < n := by rw [hp]; exact otherN_lt hlt
      obtain ⟨x, hx⟩ : ∃ x, x = l.getD j [] := ⟨_, rfl⟩
      obtain ⟨y, hy⟩ : ∃ y, y = l.getD p [] := ⟨_, rfl⟩
      have HX := Lib.hid (hg j hlt)
      have HY := Lib.hid (hg p hpn)
      rw [← hx] at HX
      rw [← hy] at HY
      have lx : x.length = 32 := by rw [hx]; exact HOK.out.get (by have := HLN.out; omega)
      have ly : y.length = 32 := by rw [hy]; exact HOK.out.get (by have := HLN.out; omega)
      have LX' := Lib.hid lx
      have LY' := Lib.hid ly
      have LX := Lib.hid (show x.length = 32 from lx)
      have LY := Lib.hid (show y.length = 32 from ly)
      have LP : Hid (((prH x y).map bV).length = 32) := by show _ = _; rw [List.length_map, prH_length]
      have lk : ((rowL prH l).take k).length ≤ 1048576 := by rw [List.length_take]; omega
      have LK := Lib.hid lk
      have ht : (rowL prH l).take (k + 1) = (rowL prH l).take k ++ [prH x y] := by
        have hkl : k < (rowL prH l).length := by rw [LROW.out]; have := HLN.out; omega
        have e := rowL_get prH [] l k (by have := HLN.out; omega)
        rw [List.getD_eq_getElem?_getD, List.getElem?_eq_getElem hkl] at e
        simp only [Option.getD_some] at e
        have e2 : otherN j n = if j + 1 < l.length then j + 1 else j := by
          unfold otherN
          rw [if_neg (show ¬ j % 2 = 1 by omega), ← HLN.out]
        rw [List.take_succ_eq_append_getElem hkl, e, hx, hy, hp, ← hj, e2]
      have HT := Lib.hid ht
      have HP := Lib.hid hp
      have p0 : 0 ≤ (j : Int) := by omega
      have q0 : (j : Int) < (n : Int) := by omega
      have p1 : 0 ≤ (p : Int) := by omega
      have q1 : (p : Int) < (n : Int) := by omega
      have wj : IntKind.i64.wrap ((j : Int) + 2) = (j : Int) + 2 := IntWalk.i64_in _ (by omega)
      have wj1 : IntKind.i64.wrap ((j : Int) + 1) = (j : Int) + 1 := IntWalk.i64_in _ (by omega)
      have wn1 : IntKind.i64.wrap ((n : Int) - 1) = (n : Int) - 1 := IntWalk.i64_in _ (by omega)
      have HM : Hid (min ((j : Int) + 1) ((n : Int) - 1) = (p : Int)) := by
        show _ = _
        rw [hp]
        unfold otherN
        rw [if_neg (show ¬ j % 2 = 1 by omega)]
        by_cases h : j + 1 < n
        · rw [if_pos h]; omega
        · rw [if_neg h]; omega
      clear hg hx hy hp hj lx ly ht lk
      go_wp2_with fail
      refine wp_region_held_drew (S := (fun w' => Below w.heap.size w w')) (by kernel_rfl) (Below.drew HB.out) (fun hHeld => ?_)
      have HO3 := Lib.hid (HO.out.keep (Below.drew (Below.refl wr.heap.size wr)))
      clear HO HB
      refine held_take (i := 0) (v := vb) rfl (by kernel_rfl) (by kernel_rfl) (by kernel_rfl) (fun _ _ _ h => h) (Or.inl ⟨by rfl, fun w' _ => by kernel_rfl⟩) hHeld ?_
      go_frame
      refine held_take (i := 1) (v := (.slice (some ⟨b, o, none⟩) n cap)) rfl (by kernel_rfl) (by kernel_rfl) (by kernel_rfl) (fun _ _ _ h => h) (Or.inl ⟨by rfl, fun w' _ => by kernel_rfl⟩) hHeld ?_
      go_frame
      refine held_take (i := 2) (v := (.int .i64 (j : Int))) rfl (by kernel_rfl) (by kernel_rfl) (by kernel_rfl) (fun _ _ _ h => h) (Or.inl ⟨by rfl, fun w' _ => by kernel_rfl⟩) hHeld ?_
      go_frame
      refine held_take (i := 3) (v := (.pointer (some ⟨b, o + j * 32, none⟩))) rfl (by kernel_rfl) (by kernel_rfl) (by kernel_rfl) (fun _ _ _ h => h) (Or.inl ⟨by rfl, fun w' _ => by go_simp⟩) hHeld ?_
      go_frame
      refine held_take (i := 4) (v := (.agg (x.map bV).toArray)) rfl (by kernel_rfl) (by kernel_rfl) (by kernel_rfl) (fun _ _ _ h => h) (yieldsIf_load_mid (by rfl) 26 (.tmp 14) rfl b (o + j * 32) rfl (x.map bV) _ (fun w' hw' => range_below HX.out hw') Tryz.underlying26 rfl (by rw [List.length_map, LX.out]; kernel_rfl)) hHeld ?_
      go_frame
      refine held_take (i := 5) (v := (.slice (some ⟨b, o, none⟩) n cap)) rfl (by kernel_rfl) (by kernel_rfl) (by kernel_rfl) (fun _ _ _ h => h) (Or.inl ⟨by rfl, fun w' _ => by kernel_rfl⟩) hHeld ?_
      go_frame
      refine held_take (i := 6) (v := (.int .i64 (j : Int))) rfl (by kernel_rfl) (by kernel_rfl) (by kernel_rfl) (fun _ _ _ h => h) (Or.inl ⟨by rfl, fun w' _ => by kernel_rfl⟩) hHeld ?_
      go_frame
      refine held_take (i := 7) (v := (.int .i64 ((j : Int) + 1))) rfl (by kernel_rfl) (by kernel_rfl) (by kernel_rfl) (fun _ _ _ h => h) (Or.inl ⟨by rfl, fun w' _ => by go_simp⟩) hHeld ?_
      go_frame
      refine held_take (i := 8) (v := (.slice (some ⟨b, o, none⟩) n cap)) rfl (by kernel_rfl) (by kernel_rfl) (by kernel_rfl) (fun _ _ _ h => h) (Or.inl ⟨by rfl, fun w' _ => by kernel_rfl⟩) hHeld ?_
      go_frame
      refine held_take (i := 9) (v := (.int .i64 (n : Int))) rfl (by kernel_rfl) (by kernel_rfl) (by kernel_rfl) (fun _ _ _ h => h) (Or.inl ⟨by rfl, fun w' _ => by kernel_rfl⟩) hHeld ?_
      go_frame
      refine held_take (i := 10) (v := (.int .i64 ((n : Int) - 1))) rfl (by kernel_rfl) (by kernel_rfl) (by kernel_rfl) (fun _ _ _ h => h) (Or.inl ⟨by rfl, fun w' _ => by go_simp⟩) hHeld ?_
      go_frame
      refine held_take (i := 11) (v := (.int .i64 (p : Int))) rfl (by kernel_rfl) (by kernel_rfl) (by kernel_rfl) (fun _ _ _ h => h) (Or.inl ⟨by rfl, fun w' _ => by go_simp; rw [HM.out]⟩) hHeld ?_
      go_frame
      refine held_take (i := 12) (v := (.pointer (some ⟨b, o + p * 32, none⟩))) rfl (by kernel_rfl) (by kernel_rfl) (by kernel_rfl) (fun _ _ _ h => h) (Or.inl ⟨by rfl, fun w' _ => by go_simp⟩) hHeld ?_
      go_frame
      refine held_take (i := 13) (v := (.agg (y.map bV).toArray)) rfl (by kernel_rfl) (by kernel_rfl) (by kernel_rfl) (fun _ _ _ h => h) (yieldsIf_load_mid (by rfl) 26 (.tmp 23) rfl b (o + p * 32) rfl (y.map bV) _ (fun w' hw' => range_below HY.out hw') Tryz.underlying26 rfl (by rw [List.length_map, LY.out]; kernel_rfl)) hHeld ?_
      go_frame
      refine wpAnyH_ready (rs := [14]) (by kernel_rfl) (by simp) (held_cons rfl (fun K hK => ?_) AllReadyH.nil)
      go_simp
      refine (pair_any x y LX'.out LY'.out _).mono ?_
      rintro e w4 ⟨rfl, bb⟩
      have HO4 := Lib.hid (HO3.out.keep bb)
      have hw4 := hHeld.trans (bb.mono hHeld.size)
      clear bb hHeld
      go_wp2_with fail
      refine hK.out _ _ hw4 (fun hHeld => ?_)
      clear hK K hw4
      refine wpAnyH_ready (rs := [15]) (by kernel_rfl) (by simp) (held_cons rfl (fun K hK => ?_) AllReadyH.nil)
      rw [if_pos (by rfl)]
      refine wp_slice_one 52 26 (.tmp 25) rfl ((prH x y).map bV) rfl Tryz.underlying52 i0 _ hi hz0 (by rw [hz1, LP.out]) (by rw [LP.out]; omega) (by rw [LP.out]; omega) ?_
      have nf := heap_alloc_new w4 (.cells ((prH x y).map bV).toArray 26 (0, 0))
      have bb := (Below.refl w4.heap.size w4).alloc (Nat.le_refl _) (.cells ((prH x y).map bV).toArray 26 (0, 0))
      obtain ⟨gn, hgn⟩ : ∃ gn, gn = w4.heap.size := ⟨_, rfl⟩
      generalize hw5 : World.alloc _ _ = w5
      have e5 : w4.alloc (.cells ((prH x y).map bV).toArray 26 (0, 0)) = w5 := hw5
      rw [e5] at nf bb
      rw [← hgn] at nf ⊢
      have NF := Lib.hid nf
      have HO5 := Lib.hid (HO4.out.keep bb)
      have hb5 := hHeld.trans (bb.mono hHeld.size)
      clear nf bb hw5 e5 hgn hHeld
      go_frame
      refine hK.out _ _ hb5 (fun hHeld => ?_)
      clear hK K hb5
      refine wpAnyH_ready (rs := [16]) (by kernel_rfl) (by simp) (held_cons rfl (fun K hK => ?_) AllReadyH.nil)
      rw [if_pos (by rfl)]
      refine wp_append_row w5 (.tmp 11) (.tmp 26) 52 rfl w.heap.size 26 i0 (.agg (List.replicate 32 (bV 0)).toArray) 32 32 Tryz.underlying52 hi hz0 hz1 hz2 (by kernel_rfl) (by decide) vb _ (hsL ((rowL prH l).take k)) rfl HO5.out.1 ⟨gn, 0, none⟩ 1 1 ((prH x y).map bV) rfl (by rw [LP.out]) (hs_one NF.out) (bV_one' _) (by have := LK.out; unfold maxLen; omega) (by have := LK.out; omega) hHeld.size ?_
      intro v6 w6 q1 q2 _
      have HO6 := Lib.hid (HsOwn.push (base := w.heap.size) HO5.out.2 (prH_length x y) q1)
      have hb6 := own_grown hHeld (Nat.le_refl _) hHeld.size HO5.out.1 q2
      clear q1 q2 hHeld
      go_frame
      refine hK.out _ _ hb6 (fun hHeld => ?_)
      clear hK K hb6
      refine held_take (i := 17) (v := v6) rfl (by kernel_rfl) (by kernel_rfl) (by kernel_rfl) (fun _ _ _ h => h) (Or.inl ⟨by rfl, fun w' _ => by kernel_rfl⟩) hHeld ?_
      go_frame
      refine wpAnyH_done (by kernel_rfl) ?_ _
      have HB6 := Lib.hid hHeld
      clear hHeld
      go_wp2_with fail
      go_roundw
      case rel =>
        refine ⟨k + 1, j + 2, _, rfl, by omega, by have := HJ.out; omega, by go_num, ?_, HB6.out⟩
        rw [HT.out]
        exact HO6.out
      case measure => simp [intOf]; omega
    · have HF : Hid (HsOwn w.heap.size wr vb (rowL prH l)) := by
        have h := HO.out
        rw [List.take_of_length_le (by rw [LROW.out]; have := HLN.out; omega)] at h
        exact h
      have hge : ¬ (j : Int) < (n : Int) := by omega
      clear HO hj
      go_wp2_with fail
      go_ret
      exact ⟨_, rfl, HF.out, HB.out⟩
end Go.Proofs.YtdhcjaflbfpalaaGreatDoor.Sha
