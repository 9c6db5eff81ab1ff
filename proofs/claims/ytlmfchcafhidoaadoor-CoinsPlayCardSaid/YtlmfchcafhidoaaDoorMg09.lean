/-
  Texts of this proof joined into one file: CnRef, CutS, CnRefRow. What each holds, and under which conditions, its own first sentence tells.
-/
import Derived.IntWalk
import Derived.Test.YtlmfchcafhidoaaDoorMg08
import Derived.Test.YtlmfchcafhidoaaDoorMg04
import Derived.Test.YtlmfchcafhidoaaDoorMg01
/-
  The statements' own set: a box with an own row of coins in the order of their places; where a place is, or would be. Nothing that was there turns. Conditions: the set lies where the pointer says, in order, at most 2^20 coins.
-/
namespace Go.Proofs.YtlmfchcafhidoaaDoor.Sha
open Go Go.RowKit
/-- The statements' own set: its row is one's own. -/
structure RefAt (w : World) (base a : Nat) (v : Value) (L : List TSp) : Prop where
  box : w.heap[a]? = some (.cells #[v] 36 (0, 0))
  row : RwOwn 68 45 base w v (L.map spL)
section
variable {w w' : World} {base a : Nat} {v : Value} {L : List TSp}
theorem RefAt.below (h : RefAt w base a v L) (hb : Below w.heap.size w w') : RefAt w' base a v L := ⟨row_below h.box hb, h.row.keep hb⟩
theorem RefAt.at (h : RefAt w base a v L) : RwAt 68 w v (L.map spL) := h.row.at (by omega)
theorem RefAt.cell (h : RefAt w base a v L) : w.cell? ⟨a, 0, none⟩ = some v := by
  rw [cell_of_row _ _ _ _ _ _ h.box]
  rfl
theorem RefAt.kps {F : Nat → Prop} (h : RefAt w base a v L) (hk : Kps F w w') (ha : F a) (hf : ∀ b, v.ownBlock = some b → F b) : RefAt w' base a v L := by
  refine ⟨row_kps h.box hk ha, ?_, h.row.2⟩
  obtain ⟨h1, h2⟩ := h.row.1
  refine ⟨h1, ?_⟩
  rcases h2 with h2 | ⟨g, cap, cur, hv, hb, hc, h3⟩
  · exact .inl h2
  · exact .inr ⟨g, cap, cur, hv, hb, row_kps hc hk (hf g (by rw [hv]; rfl)), h3⟩
theorem RefAt.lower {base' : Nat} (h : RefAt w base a v L) (hb : base' ≤ base) : RefAt w base' a v L := by
  refine ⟨h.box, ?_, h.row.2⟩
  obtain ⟨h1, h2⟩ := h.row.1
  refine ⟨h1, ?_⟩
  rcases h2 with h2 | ⟨g, cap, cur, hv, hb', h3⟩
  · exact .inl h2
  · exact .inr ⟨g, cap, cur, hv, Nat.le_trans hb hb', h3⟩
/-- Its blocks are other ones than a set's. -/
theorem RefAt.apart {b : Nat} {m : Option Nat} {l : List TSp} (h : RefAt w base a v L) (hs : SetAt w b m l) : (a ≠ b ∧ m ≠ some a) ∧ (∀ q, v.ownBlock = some q → q ≠ b ∧ m ≠ some q) := by
  have hm : ∀ (x : Nat) (cs : Array Value) (T : TypeId) (fr : Nat × Nat), w.heap[x]? = some (.cells cs T fr) → m ≠ some x := by
    intro x cs T fr hx e
    have hmap := hs.map
    rw [e] at hmap
    obtain ⟨_, _, h1, _⟩ := hmap
    rw [hx] at h1
    cases h1
  have hb : ∀ (x : Nat) (cs : Array Value) (T : TypeId) (fr : Nat × Nat), T ≠ 32 → w.heap[x]? = some (.cells cs T fr) → x ≠ b := by
    intro x cs T fr hT hx e
    rw [e, hs.box] at hx
    cases hx
    exact hT rfl
  refine ⟨⟨hb a _ _ _ (by decide) h.box, hm a _ _ _ h.box⟩, fun q hq => ?_⟩
  rcases h.row.1.2 with ⟨hv, _⟩ | ⟨g, cap, cur, hv, _, hc, _⟩
  · rw [hv] at hq
    cases hq
  · rw [hv] at hq
    cases hq
    exact ⟨hb g _ _ _ (by decide) hc, hm g _ _ _ hc⟩
end
/-! Where a place is, or would be. -/
def ltP (x : TSp) (p : TPt) : Bool := lessPt x.at_.h x.at_.n p.h p.n
def Rank (L : List TSp) (p : TPt) (k : Nat) : Prop := k ≤ L.length ∧ (∀ i x, L[i]? = some x → i < k → ltP x p = true) ∧ (∀ i x, L[i]? = some x → k ≤ i → ltP x p = false)
section
variable {L : List TSp} {p : TPt}
theorem sorted_lt (hs : SortedC L) {i j : Nat} {x y : TSp} (hi : L[i]? = some x) (hj : L[j]? = some y) (h : i < j) : ltSp x y = true := by
  obtain ⟨h1, h2⟩ := List.getElem?_eq_some_iff.1 hi
  obtain ⟨h3, h4⟩ := List.getElem?_eq_some_iff.1 hj
  have := (List.pairwise_iff_getElem.1 hs) i j h1 h3 h
  rwa [h2, h4] at this
theorem rank_up (hs : SortedC L) (ho : ∀ x ∈ L, SpOk x) (hp : PtOk p) {m : Nat} {x : TSp} (hm : L[m]? = some x) (h : ltP x p = true) : ∀ i y, L[i]? = some y → i < m + 1 → ltP y p = true := by
  intro i y hy hi
  rcases Nat.lt_or_ge i m with h1 | h1
  · have oy := ho y (List.mem_of_getElem? hy)
    have ox := ho x (List.mem_of_getElem? hm)
    exact lessPt_trans (by rw [oy.1.1, ox.1.1]) (by rw [ox.1.1, hp.1]) (sorted_lt hs hy hm h1) h
  · have e : i = m := by omega
    rw [e, hm] at hy
    cases hy
    exact h
theorem rank_down (hs : SortedC L) (ho : ∀ x ∈ L, SpOk x) (hp : PtOk p) {m : Nat} {x : TSp} (hm : L[m]? = some x) (h : ltP x p = false) : ∀ i y, L[i]? = some y → m ≤ i → ltP y p = false := by
  intro i y hy hi
  rcases Nat.lt_or_ge m i with h1 | h1
  · cases hc : ltP y p with
    | false => rfl
    | true =>
      have oy := ho y (List.mem_of_getElem? hy)
      have ox := ho x (List.mem_of_getElem? hm)
      have := lessPt_trans (by rw [ox.1.1, oy.1.1]) (by rw [oy.1.1, hp.1]) (sorted_lt hs hm hy h1) hc
      unfold ltP at h
      rw [this] at h
      cases h
  · have e : i = m := by omega
    rw [e, hm] at hy
    cases hy
    exact h
/-- What is there stands at its rank. -/
theorem rank_there (hs : SortedC L) {k : Nat} (hr : Rank L p k) {j : Nat} {x : TSp} (hj : L[j]? = some x) (hx : x.at_ = p) : j = k := by
  have h1 : ltP x p = false := by unfold ltP; rw [hx]; exact lessPt_self _ _
  rcases Nat.lt_trichotomy j k with h | h | h
  · rw [hr.2.1 j x hj h] at h1
    cases h1
  · exact h
  · have hjl := (List.getElem?_eq_some_iff.1 hj).1
    obtain ⟨y, hy⟩ : ∃ y, L[k]? = some y := ⟨_, List.getElem?_eq_getElem (Nat.lt_trans h hjl)⟩
    have h2 := sorted_lt hs hy hj h
    have h3 := hr.2.2 k y hy (Nat.le_refl _)
    unfold ltSp at h2
    unfold ltP at h3
    rw [hx, h3] at h2
    cases h2
theorem getC_at {x : TSp} (ha : L.Pairwise (fun x y => x.at_ ≠ y.at_)) {k : Nat} (hs : SortedC L) (hr : Rank L p k) (hk : L[k]? = some x) : getC L p = if x.at_ = p then some x.coin else none := by
  by_cases h : x.at_ = p
  · rw [if_pos h]
    exact getC_some ha hk h
  · rw [if_neg h]
    refine getC_none fun y hy e => ?_
    obtain ⟨j, hj⟩ := List.getElem?_of_mem hy
    have := rank_there hs hr hj e
    rw [this, hk] at hj
    cases hj
    exact h e
theorem getC_past {k : Nat} (hs : SortedC L) (hr : Rank L p k) (hk : L.length ≤ k) : getC L p = none := by
  refine getC_none fun y hy e => ?_
  obtain ⟨j, hj⟩ := List.getElem?_of_mem hy
  have := rank_there hs hr hj e
  have := (List.getElem?_eq_some_iff.1 hj).1
  omega
theorem sorted_apart (hs : SortedC L) : L.Pairwise (fun x y => x.at_ ≠ y.at_) := hs.imp fun {x y} h e => by
  unfold ltSp at h
  rw [e, lessPt_self] at h
  cases h
end
def PlInv (L : List TSp) (p : TPt) (w : World) (vl vh : Value) (wr : World) : Prop :=
  ∃ lo hi : Nat, lo ≤ hi ∧ hi ≤ L.length ∧ vl = .int .i64 (lo : Int) ∧ vh = .int .i64 (hi : Int) ∧ (∀ i x, L[i]? = some x → i < lo → ltP x p = true) ∧ (∀ i x, L[i]? = some x → hi ≤ i → ltP x p = false) ∧ Below w.heap.size w wr
set_option maxHeartbeats 4000000 in
set_option maxRecDepth 100000 in
theorem rplace_any (w : World) (base a : Nat) (v : Value) (L : List TSp) (p : TPt) (h : RefAt w base a v L) (hs : SortedC L) (ho : ∀ x ∈ L, SpOk x) (hp : PtOk p) (hn : L.length ≤ 1048576) :
    Calls Tryd.prog 30 #[.pointer (some ⟨a, 0, none⟩), .agg (ptC p).toArray] w fun e w' => ∃ k : Nat, e = .returned (.tuple #[.int .i64 (k : Int), .bool (getC L p).isSome]) ∧ Rank L p k ∧ Below w.heap.size w w' := by
  obtain ⟨sp, cap, rfl⟩ := h.at.shape
  rw [List.length_map] at h
  have HR := Lib.hid h.at
  have RC0 : Hid (∀ W, Below w.heap.size w W → W.cell? ⟨a, 0, none⟩ = some (.slice sp L.length cap)) := fun W hW => (h.below hW).cell
  obtain ⟨n, hnl⟩ : ∃ n, n = L.length := ⟨_, rfl⟩
  rw [← hnl] at HR RC0 hn
  have N := Lib.hid hnl
  have HS := Lib.hid hs
  have OK := Lib.hid ho
  have HP := Lib.hid hp
  have RC := Lib.hid RC0.out
  have LP : Hid ((ptC p).length = 33) := ptC_length hp
  clear h hs ho hp hnl RC0
  go_enter Tryd.func30, Tryd.ntmps30
  go_upto_region 1 with fail
  have f3 := heap_alloc_new w (.cells (ptC p).toArray 27 (0, 0))
  have b0 := (Below.refl w.heap.size w).alloc (Nat.le_refl _) (.cells (ptC p).toArray 27 (0, 0))
  generalize hw1 : World.alloc _ _ = w1
  have e1 : w.alloc (.cells (ptC p).toArray 27 (0, 0)) = w1 := hw1
  rw [e1] at f3 b0
  obtain ⟨g3, hg3⟩ : ∃ g3, g3 = w.heap.size := ⟨_, rfl⟩
  have G3 : Hid (w.heap.size ≤ g3) := by show _ ≤ _; rw [hg3]; exact Nat.le_refl _
  rw [← hg3] at f3 ⊢
  have F30 : Hid (w1.rangeAt g3 0 (ptC p)) := range_of_box f3
  have W1 : Hid (w.heap.size ≤ w1.heap.size) := b0.size
  have B1 := Lib.hid b0
  obtain ⟨cp, hcp⟩ : ∃ cp, cp = ptC p := ⟨_, rfl⟩
  rw [← hcp] at F30 LP
  have CP := Lib.hid hcp
  have RC1 : Hid (∀ W, Below w1.heap.size w1 W → W.cell? ⟨a, 0, none⟩ = some (.slice sp n cap)) := fun W hW => RC.out W (B1.out.trans (hW.mono W1.out))
  have F3 : Hid (∀ W, Below w1.heap.size w1 W → W.rangeAt g3 0 cp) := fun W hW => range_below F30.out hW
  have HR1 := Lib.hid (HR.out.below b0)
  have rc1 := RC1.out w1 (Below.refl _ _)
  clear f3 b0 hw1 e1 hg3 hcp F30 RC HR
  go_wp2_with fail
  go_loopw [6, 7] (fun vl vh wr => PlInv L p w1 vl vh wr) (fun vl vh _ => (intOf vh).toNat - (intOf vl).toNat)
  case atStart => exact ⟨0, n, Nat.zero_le _, by rw [N.out]; exact Nat.le_refl _, rfl, rfl, (fun i x _ hi => by omega), (fun i x hx hi => by have := (List.getElem?_eq_some_iff.1 hx).1; have := N.out; omega), Below.refl _ _⟩
  case round =>
    clear rc1
    obtain ⟨lo, hi, hlh, hhn, rfl, rfl, hlo, hhi, hb⟩ := hrel
    have LO := Lib.hid hlo
    have HI := Lib.hid hhi
    have BB := Lib.hid hb
    rw [← N.out] at hhn
    clear hlo hhi hb
    by_cases hlt : lo < hi
    · obtain ⟨b, o, rfl, hg⟩ := HR1.out.get (by omega)
      obtain ⟨md, hmd⟩ : ∃ md, md = (lo + hi) / 2 := ⟨_, rfl⟩
      have hml : md < L.length := by rw [← N.out]; omega
      obtain ⟨x, hx⟩ : ∃ x, L[md]? = some x := ⟨_, List.getElem?_eq_getElem hml⟩
      have ox := OK.out x (List.mem_of_getElem? hx)
      have hr := hg md (spL x) (by rw [List.getElem?_map, hx]; rfl)
      have PX : Hid (∀ W, Below w1.heap.size w1 W → W.rangeAt b (o + md * 68) (ptC x.at_)) := fun W hW => sp_pt (range_below hr hW)
      have LX : Hid ((ptC x.at_).length = 33) := ptC_length ox.1
      have LL0 : Hid (∀ W, Calls Tryd.prog 26 #[.agg (ptC x.at_).toArray, .agg (ptC p).toArray] W fun e w' => e = .returned (.bool (ltP x p)) ∧ Below W.heap.size W w') := fun W => rlesspt_any _ _ _ _ ox.1.1 HP.out.1 (ltP x p) rfl W
      have UP : Hid (ltP x p = true → ∀ i y, L[i]? = some y → i < md + 1 → ltP y p = true) := rank_up HS.out OK.out HP.out hx
      have DN : Hid (ltP x p = false → ∀ i y, L[i]? = some y → md ≤ i → ltP y p = false) := rank_down HS.out OK.out HP.out hx
      obtain ⟨cx, hcx⟩ : ∃ cx, cx = ptC x.at_ := ⟨_, rfl⟩
      rw [← hcx] at PX LX LL0
      rw [← CP.out] at LL0
      obtain ⟨q, hq⟩ : ∃ q, q = ltP x p := ⟨_, rfl⟩
      rw [← hq] at LL0 UP DN
      have LL := Lib.hid LL0.out
      have p0 : 0 ≤ (md : Int) := by omega
      have q0 : (md : Int) < (n : Int) := by omega
      have r0 : 0 ≤ (lo : Int) := by omega
      have r1 : (lo : Int) ≤ 1048576 := by omega
      have r2 : 0 ≤ (hi : Int) := by omega
      have r3 : (hi : Int) ≤ 1048576 := by omega
      have t0 : ((lo : Int) + (hi : Int)).tdiv 2 = (md : Int) := by rw [Int.tdiv_eq_ediv_of_nonneg (by omega)]; omega
      have MD1 : lo ≤ md := by omega
      have MD2 : md < hi := by omega
      clear hg hx ox hr hml hcx hq LL0 hmd
      go_upto_region 5 with fail
      cases q with
      | true =>
        refine wp_region_held_drew (S := (fun w' => Below w1.heap.size w1 w')) (by kernel_rfl) (Below.drew BB.out) (fun hHeld => ?_)
        generalize hwd : wr.drew = wd at  hHeld ⊢
        clear hwd
        refine held_take (i := 0) (v := (.pointer (some ⟨a, 0, none⟩))) rfl (by kernel_rfl) (by kernel_rfl) (by kernel_rfl) (fun _ _ _ h => h) (Or.inl ⟨by rfl, fun w' _ => by kernel_rfl⟩) hHeld ?_
        go_frame
        refine held_take (i := 1) (v := (.pointer (some ⟨a, 0, none⟩))) rfl (by kernel_rfl) (by kernel_rfl) (by kernel_rfl) (fun _ _ _ h => h) (Or.inl ⟨by rfl, fun w' _ => by kernel_rfl⟩) hHeld ?_
        go_frame
        refine held_take (i := 2) (v := (.pointer (some ⟨a, 0, none⟩))) rfl (by kernel_rfl) (by kernel_rfl) (by kernel_rfl) (fun _ _ _ h => h) (Or.inl ⟨by rfl, fun w' _ => by kernel_rfl⟩) hHeld ?_
        go_frame
        refine held_take (i := 3) (v := (.slice (some ⟨b, o, none⟩) n cap)) rfl (by kernel_rfl) (by kernel_rfl) (by kernel_rfl) (fun _ _ _ h => h) (yieldsIf_load_one (by rfl) 34 (.tmp 23) rfl a (0) rfl _ _ (fun w' hw' => RC1.out w' hw') Tryd.underlying34 rfl) hHeld ?_
        go_frame
        refine held_take (i := 4) (v := (.int .i64 (md : Int))) rfl (by kernel_rfl) (by kernel_rfl) (by kernel_rfl) (fun _ _ _ h => h) (Or.inl ⟨by rfl, fun w' _ => by kernel_rfl⟩) hHeld ?_
        go_frame
        refine held_take (i := 5) (v := (.pointer (some ⟨b, o + md * 68, none⟩))) rfl (by kernel_rfl) (by kernel_rfl) (by kernel_rfl) (fun _ _ _ h => h) (Or.inl ⟨by rfl, fun w' _ => by go_simp⟩) hHeld ?_
        go_frame
        refine held_take (i := 6) (v := (.pointer (some ⟨b, o + md * 68, none⟩))) rfl (by kernel_rfl) (by kernel_rfl) (by kernel_rfl) (fun _ _ _ h => h) (Or.inl ⟨by rfl, fun w' _ => by kernel_rfl⟩) hHeld ?_
        go_frame
        refine held_take (i := 7) (v := (.agg cx.toArray)) rfl (by kernel_rfl) (by kernel_rfl) (by kernel_rfl) (fun _ _ _ h => h) (Sha.yieldsIf_load_mid (by rfl) 27 (.tmp 27) rfl b (o + md * 68) rfl cx _ (fun w' hw' => PX.out w' hw') Tryd.underlying27 rfl (by rw [LX.out]; kernel_rfl)) hHeld ?_
        go_frame
        refine held_take (i := 8) (v := (.agg cp.toArray)) rfl (by kernel_rfl) (by kernel_rfl) (by kernel_rfl) (fun _ _ _ h => h) (Sha.yieldsIf_load_mid (by rfl) 27 (.tmp 3) rfl g3 (0) rfl cp _ (fun w' hw' => F3.out w' hw') Tryd.underlying27 rfl (by rw [LP.out]; kernel_rfl)) hHeld ?_
        go_frame
        refine wpAnyH_ready (rs := [9]) (by kernel_rfl) (by simp) (held_cons rfl (fun K hK => ?_) AllReadyH.nil)
        go_simp
        refine (LL.out _).mono ?_
        rintro e v1 ⟨rfl, bb⟩
        have hv1 := hHeld.trans (bb.mono hHeld.size)
        clear bb hHeld
        go_wp2_with fail
        refine hK.out _ _ hv1 (fun hHeld => ?_)
        clear hK K hv1
        refine wpAnyH_done (by kernel_rfl) ?_ _
        have BH := Lib.hid hHeld
        clear hHeld
        go_wp2_with fail
        go_roundw
        case rel => exact ⟨md + 1, hi, by omega, by rw [← N.out]; exact hhn, by go_num, rfl, UP.out (by first | rfl | trivial), HI.out, BH.out⟩
        case measure => simp [intOf]; omega
      | false =>
        refine wp_region_held_drew (S := (fun w' => Below w1.heap.size w1 w')) (by kernel_rfl) (Below.drew BB.out) (fun hHeld => ?_)
        generalize hwd : wr.drew = wd at  hHeld ⊢
        clear hwd
        refine held_take (i := 0) (v := (.pointer (some ⟨a, 0, none⟩))) rfl (by kernel_rfl) (by kernel_rfl) (by kernel_rfl) (fun _ _ _ h => h) (Or.inl ⟨by rfl, fun w' _ => by kernel_rfl⟩) hHeld ?_
        go_frame
        refine held_take (i := 1) (v := (.pointer (some ⟨a, 0, none⟩))) rfl (by kernel_rfl) (by kernel_rfl) (by kernel_rfl) (fun _ _ _ h => h) (Or.inl ⟨by rfl, fun w' _ => by kernel_rfl⟩) hHeld ?_
        go_frame
        refine held_take (i := 2) (v := (.pointer (some ⟨a, 0, none⟩))) rfl (by kernel_rfl) (by kernel_rfl) (by kernel_rfl) (fun _ _ _ h => h) (Or.inl ⟨by rfl, fun w' _ => by kernel_rfl⟩) hHeld ?_
        go_frame
        refine held_take (i := 3) (v := (.slice (some ⟨b, o, none⟩) n cap)) rfl (by kernel_rfl) (by kernel_rfl) (by kernel_rfl) (fun _ _ _ h => h) (yieldsIf_load_one (by rfl) 34 (.tmp 23) rfl a (0) rfl _ _ (fun w' hw' => RC1.out w' hw') Tryd.underlying34 rfl) hHeld ?_
        go_frame
        refine held_take (i := 4) (v := (.int .i64 (md : Int))) rfl (by kernel_rfl) (by kernel_rfl) (by kernel_rfl) (fun _ _ _ h => h) (Or.inl ⟨by rfl, fun w' _ => by kernel_rfl⟩) hHeld ?_
        go_frame
        refine held_take (i := 5) (v := (.pointer (some ⟨b, o + md * 68, none⟩))) rfl (by kernel_rfl) (by kernel_rfl) (by kernel_rfl) (fun _ _ _ h => h) (Or.inl ⟨by rfl, fun w' _ => by go_simp⟩) hHeld ?_
        go_frame
        refine held_take (i := 6) (v := (.pointer (some ⟨b, o + md * 68, none⟩))) rfl (by kernel_rfl) (by kernel_rfl) (by kernel_rfl) (fun _ _ _ h => h) (Or.inl ⟨by rfl, fun w' _ => by kernel_rfl⟩) hHeld ?_
        go_frame
        refine held_take (i := 7) (v := (.agg cx.toArray)) rfl (by kernel_rfl) (by kernel_rfl) (by kernel_rfl) (fun _ _ _ h => h) (Sha.yieldsIf_load_mid (by rfl) 27 (.tmp 27) rfl b (o + md * 68) rfl cx _ (fun w' hw' => PX.out w' hw') Tryd.underlying27 rfl (by rw [LX.out]; kernel_rfl)) hHeld ?_
        go_frame
        refine held_take (i := 8) (v := (.agg cp.toArray)) rfl (by kernel_rfl) (by kernel_rfl) (by kernel_rfl) (fun _ _ _ h => h) (Sha.yieldsIf_load_mid (by rfl) 27 (.tmp 3) rfl g3 (0) rfl cp _ (fun w' hw' => F3.out w' hw') Tryd.underlying27 rfl (by rw [LP.out]; kernel_rfl)) hHeld ?_
        go_frame
        refine wpAnyH_ready (rs := [9]) (by kernel_rfl) (by simp) (held_cons rfl (fun K hK => ?_) AllReadyH.nil)
        go_simp
        refine (LL.out _).mono ?_
        rintro e v1 ⟨rfl, bb⟩
        have hv1 := hHeld.trans (bb.mono hHeld.size)
        clear bb hHeld
        go_wp2_with fail
        refine hK.out _ _ hv1 (fun hHeld => ?_)
        clear hK K hv1
        refine wpAnyH_done (by kernel_rfl) ?_ _
        have BH := Lib.hid hHeld
        clear hHeld
        go_wp2_with fail
        go_roundw
        case rel => exact ⟨lo, md, MD1, by rw [← N.out]; omega, rfl, rfl, LO.out, DN.out (by first | rfl | trivial), BH.out⟩
        case measure => simp [intOf]; omega
    · have hge : ¬ (lo : Int) < (hi : Int) := by omega
      obtain rfl : hi = lo := by omega
      have RK : Hid (Rank L p hi) := ⟨by rw [← N.out]; exact hhn, LO.out, HI.out⟩
      obtain ⟨k, hk⟩ : ∃ k, k = hi := ⟨_, rfl⟩
      rw [← hk] at hge hlh hhn RK ⊢
      clear hlt LO HI hk
      by_cases hkn : k < n
      · obtain ⟨b, o, rfl, hg⟩ := HR1.out.get (by omega)
        have hkl : k < L.length := by rw [← N.out]; omega
        obtain ⟨x, hx⟩ : ∃ x, L[k]? = some x := ⟨_, List.getElem?_eq_getElem hkl⟩
        have ox := OK.out x (List.mem_of_getElem? hx)
        have hr := hg k (spL x) (by rw [List.getElem?_map, hx]; rfl)
        have PX : Hid (∀ W, Below w1.heap.size w1 W → W.rangeAt b (o + k * 68) (ptC x.at_)) := fun W hW => sp_pt (range_below hr hW)
        have LX : Hid ((ptC x.at_).length = 33) := ptC_length ox.1
        obtain ⟨q, hq⟩ : ∃ q, q = (decide (x.at_.h = p.h) && decide (x.at_.n = p.n)) := ⟨_, rfl⟩
        have LL0 : Hid (∀ W, Calls Tryd.prog 44 #[.agg (ptC x.at_).toArray, .agg (ptC p).toArray] W fun e w' => e = .returned (.bool q) ∧ Below W.heap.size W w') := fun W => samept_any _ _ _ _ ox.1.1 HP.out.1 q hq W
        have IS : Hid ((getC L p).isSome = q) := by
          show _ = _
          rw [getC_at (sorted_apart HS.out) HS.out RK.out hx, hq]
          obtain ⟨⟨xh, xn⟩, xc⟩ := x
          obtain ⟨ph, pn⟩ := p
          by_cases e1 : xh = ph <;> by_cases e2 : xn = pn <;> simp [e1, e2]
        obtain ⟨cx, hcx⟩ : ∃ cx, cx = ptC x.at_ := ⟨_, rfl⟩
        rw [← hcx] at PX LX LL0
        rw [← CP.out] at LL0
        have LL := Lib.hid LL0.out
        have p0 : 0 ≤ (k : Int) := by omega
        have q0 : (k : Int) < (n : Int) := by omega
        clear hg hx ox hr hkl hcx hq LL0
        go_upto_region 8 with fail
        refine wp_region_held_drew (S := (fun w' => Below w1.heap.size w1 w')) (by kernel_rfl) (Below.drew BB.out) (fun hHeld => ?_)
        generalize hwd : wr.drew = wd at  hHeld ⊢
        clear hwd
        refine held_take (i := 0) (v := (.int .i64 (k : Int))) rfl (by kernel_rfl) (by kernel_rfl) (by kernel_rfl) (fun _ _ _ h => h) (Or.inl ⟨by rfl, fun w' _ => by kernel_rfl⟩) hHeld ?_
        go_frame
        refine held_take (i := 1) (v := (.int .i64 (k : Int))) rfl (by kernel_rfl) (by kernel_rfl) (by kernel_rfl) (fun _ _ _ h => h) (Or.inl ⟨by rfl, fun w' _ => by kernel_rfl⟩) hHeld ?_
        go_frame
        refine held_take (i := 2) (v := (.pointer (some ⟨a, 0, none⟩))) rfl (by kernel_rfl) (by kernel_rfl) (by kernel_rfl) (fun _ _ _ h => h) (Or.inl ⟨by rfl, fun w' _ => by kernel_rfl⟩) hHeld ?_
        go_frame
        refine held_take (i := 3) (v := (.pointer (some ⟨a, 0, none⟩))) rfl (by kernel_rfl) (by kernel_rfl) (by kernel_rfl) (fun _ _ _ h => h) (Or.inl ⟨by rfl, fun w' _ => by kernel_rfl⟩) hHeld ?_
        go_frame
        refine held_take (i := 4) (v := (.pointer (some ⟨a, 0, none⟩))) rfl (by kernel_rfl) (by kernel_rfl) (by kernel_rfl) (fun _ _ _ h => h) (Or.inl ⟨by rfl, fun w' _ => by kernel_rfl⟩) hHeld ?_
        go_frame
        refine held_take (i := 5) (v := (.slice (some ⟨b, o, none⟩) n cap)) rfl (by kernel_rfl) (by kernel_rfl) (by kernel_rfl) (fun _ _ _ h => h) (yieldsIf_load_one (by rfl) 34 (.tmp 38) rfl a (0) rfl _ _ (fun w' hw' => RC1.out w' hw') Tryd.underlying34 rfl) hHeld ?_
        go_frame
        refine held_take (i := 6) (v := (.int .i64 (n : Int))) rfl (by kernel_rfl) (by kernel_rfl) (by kernel_rfl) (fun _ _ _ h => h) (Or.inl ⟨by rfl, fun w' _ => by go_simp⟩) hHeld ?_
        go_frame
        refine held_take (i := 7) (v := (.bool true)) rfl (by kernel_rfl) (by kernel_rfl) (by kernel_rfl) (fun _ _ _ h => h) (Or.inl ⟨by rfl, fun w' _ => by go_simp⟩) hHeld ?_
        go_frame
        refine held_take (i := 8) (v := (.bool true)) rfl (by kernel_rfl) (by kernel_rfl) (by kernel_rfl) (fun _ _ _ h => h) (Or.inl ⟨by rfl, fun w' _ => by kernel_rfl⟩) hHeld ?_
        go_frame
        refine held_take (i := 9) (v := (.pointer (some ⟨a, 0, none⟩))) rfl (by kernel_rfl) (by kernel_rfl) (by kernel_rfl) (fun _ _ _ h => h) (Or.inl ⟨by rfl, fun w' _ => by kernel_rfl⟩) hHeld ?_
        go_frame
        refine held_take (i := 10) (v := (.pointer (some ⟨a, 0, none⟩))) rfl (by kernel_rfl) (by kernel_rfl) (by kernel_rfl) (fun _ _ _ h => h) (Or.inl ⟨by rfl, fun w' _ => by kernel_rfl⟩) hHeld ?_
        go_frame
        refine held_take (i := 11) (v := (.pointer (some ⟨a, 0, none⟩))) rfl (by kernel_rfl) (by kernel_rfl) (by kernel_rfl) (fun _ _ _ h => h) (Or.inl ⟨by rfl, fun w' _ => by kernel_rfl⟩) hHeld ?_
        go_frame
        refine held_take (i := 12) (v := (.slice (some ⟨b, o, none⟩) n cap)) rfl (by kernel_rfl) (by kernel_rfl) (by kernel_rfl) (fun _ _ _ h => h) (yieldsIf_load_one (by rfl) 34 (.tmp 45) rfl a (0) rfl _ _ (fun w' hw' => RC1.out w' hw') Tryd.underlying34 rfl) hHeld ?_
        go_frame
        refine held_take (i := 13) (v := (.int .i64 (k : Int))) rfl (by kernel_rfl) (by kernel_rfl) (by kernel_rfl) (fun _ _ _ h => h) (Or.inl ⟨by rfl, fun w' _ => by kernel_rfl⟩) hHeld ?_
        go_frame
        refine held_take (i := 14) (v := (.pointer (some ⟨b, o + k * 68, none⟩))) rfl (by kernel_rfl) (by kernel_rfl) (by kernel_rfl) (fun _ _ _ h => h) (Or.inl ⟨by rfl, fun w' _ => by go_simp⟩) hHeld ?_
        go_frame
        refine held_take (i := 15) (v := (.pointer (some ⟨b, o + k * 68, none⟩))) rfl (by kernel_rfl) (by kernel_rfl) (by kernel_rfl) (fun _ _ _ h => h) (Or.inl ⟨by rfl, fun w' _ => by kernel_rfl⟩) hHeld ?_
        go_frame
        refine held_take (i := 16) (v := (.agg cx.toArray)) rfl (by kernel_rfl) (by kernel_rfl) (by kernel_rfl) (fun _ _ _ h => h) (Sha.yieldsIf_load_mid (by rfl) 27 (.tmp 49) rfl b (o + k * 68) rfl cx _ (fun w' hw' => PX.out w' hw') Tryd.underlying27 rfl (by rw [LX.out]; kernel_rfl)) hHeld ?_
        go_frame
        refine held_take (i := 17) (v := (.agg cp.toArray)) rfl (by kernel_rfl) (by kernel_rfl) (by kernel_rfl) (fun _ _ _ h => h) (Sha.yieldsIf_load_mid (by rfl) 27 (.tmp 3) rfl g3 (0) rfl cp _ (fun w' hw' => F3.out w' hw') Tryd.underlying27 rfl (by rw [LP.out]; kernel_rfl)) hHeld ?_
        go_frame
        refine wpAnyH_ready (rs := [18]) (by kernel_rfl) (by simp) (held_cons rfl (fun K hK => ?_) AllReadyH.nil)
        rw [if_pos (by rfl)]
        go_simp
        refine (LL.out _).mono ?_
        rintro e v1 ⟨rfl, bb⟩
        have hv1 := hHeld.trans (bb.mono hHeld.size)
        clear bb hHeld
        go_wp2_with fail
        refine hK.out _ _ hv1 (fun hHeld => ?_)
        clear hK K hv1
        refine held_take (i := 19) (v := (.bool q)) rfl (by kernel_rfl) (by kernel_rfl) (by kernel_rfl) (fun _ _ _ h => h) (Or.inl ⟨by rfl, fun w' _ => by kernel_rfl⟩) hHeld ?_
        go_frame
        refine held_take (i := 20) (v := (.int .i64 (k : Int))) rfl (by kernel_rfl) (by kernel_rfl) (by kernel_rfl) (fun _ _ _ h => h) (Or.inl ⟨by rfl, fun w' _ => by kernel_rfl⟩) hHeld ?_
        go_frame
        refine held_take (i := 21) (v := (.bool q)) rfl (by kernel_rfl) (by kernel_rfl) (by kernel_rfl) (fun _ _ _ h => h) (Or.inl ⟨by rfl, fun w' _ => by kernel_rfl⟩) hHeld ?_
        go_frame
        refine wpAnyH_done (by kernel_rfl) ?_ _
        have BH := Lib.hid hHeld
        clear hHeld
        go_wp2_with fail
        go_ret2
        exact ⟨k, by rw [IS.out]; rfl, RK.out, B1.out.trans (BH.out.mono W1.out)⟩
      · have IS : Hid ((getC L p).isSome = false) := by
          show _ = _
          rw [getC_past HS.out RK.out (by rw [← N.out]; omega)]
          rfl
        have q0 : ¬ (k : Int) < (n : Int) := by omega
        go_upto_region 8 with fail
        refine wp_region_held_drew (S := (fun w' => Below w1.heap.size w1 w')) (by kernel_rfl) (Below.drew BB.out) (fun hHeld => ?_)
        generalize hwd : wr.drew = wd at  hHeld ⊢
        clear hwd
        refine held_take (i := 0) (v := (.int .i64 (k : Int))) rfl (by kernel_rfl) (by kernel_rfl) (by kernel_rfl) (fun _ _ _ h => h) (Or.inl ⟨by rfl, fun w' _ => by kernel_rfl⟩) hHeld ?_
        go_frame
        refine held_take (i := 1) (v := (.int .i64 (k : Int))) rfl (by kernel_rfl) (by kernel_rfl) (by kernel_rfl) (fun _ _ _ h => h) (Or.inl ⟨by rfl, fun w' _ => by kernel_rfl⟩) hHeld ?_
        go_frame
        refine held_take (i := 2) (v := (.pointer (some ⟨a, 0, none⟩))) rfl (by kernel_rfl) (by kernel_rfl) (by kernel_rfl) (fun _ _ _ h => h) (Or.inl ⟨by rfl, fun w' _ => by kernel_rfl⟩) hHeld ?_
        go_frame
        refine held_take (i := 3) (v := (.pointer (some ⟨a, 0, none⟩))) rfl (by kernel_rfl) (by kernel_rfl) (by kernel_rfl) (fun _ _ _ h => h) (Or.inl ⟨by rfl, fun w' _ => by kernel_rfl⟩) hHeld ?_
        go_frame
        refine held_take (i := 4) (v := (.pointer (some ⟨a, 0, none⟩))) rfl (by kernel_rfl) (by kernel_rfl) (by kernel_rfl) (fun _ _ _ h => h) (Or.inl ⟨by rfl, fun w' _ => by kernel_rfl⟩) hHeld ?_
        go_frame
        refine held_take (i := 5) (v := (.slice sp n cap)) rfl (by kernel_rfl) (by kernel_rfl) (by kernel_rfl) (fun _ _ _ h => h) (yieldsIf_load_one (by rfl) 34 (.tmp 38) rfl a (0) rfl _ _ (fun w' hw' => RC1.out w' hw') Tryd.underlying34 rfl) hHeld ?_
        go_frame
        refine held_take (i := 6) (v := (.int .i64 (n : Int))) rfl (by kernel_rfl) (by kernel_rfl) (by kernel_rfl) (fun _ _ _ h => h) (Or.inl ⟨by rfl, fun w' _ => by go_simp⟩) hHeld ?_
        go_frame
        refine held_take (i := 7) (v := (.bool false)) rfl (by kernel_rfl) (by kernel_rfl) (by kernel_rfl) (fun _ _ _ h => h) (Or.inl ⟨by rfl, fun w' _ => by go_simp⟩) hHeld ?_
        go_frame
        refine held_take (i := 8) (v := (.bool false)) rfl (by kernel_rfl) (by kernel_rfl) (by kernel_rfl) (fun _ _ _ h => h) (Or.inl ⟨by rfl, fun w' _ => by kernel_rfl⟩) hHeld ?_
        go_frame
        refine held_take (i := 9) (v := undef) rfl (by kernel_rfl) (by kernel_rfl) (by kernel_rfl) (fun _ _ _ h => h) (Or.inr ⟨by rfl, rfl⟩) hHeld ?_
        go_frame
        refine held_take (i := 10) (v := undef) rfl (by kernel_rfl) (by kernel_rfl) (by kernel_rfl) (fun _ _ _ h => h) (Or.inr ⟨by rfl, rfl⟩) hHeld ?_
        go_frame
        refine held_take (i := 11) (v := undef) rfl (by kernel_rfl) (by kernel_rfl) (by kernel_rfl) (fun _ _ _ h => h) (Or.inr ⟨by rfl, rfl⟩) hHeld ?_
        go_frame
        refine held_take (i := 12) (v := undef) rfl (by kernel_rfl) (by kernel_rfl) (by kernel_rfl) (fun _ _ _ h => h) (Or.inr ⟨by rfl, rfl⟩) hHeld ?_
        go_frame
        refine held_take (i := 13) (v := undef) rfl (by kernel_rfl) (by kernel_rfl) (by kernel_rfl) (fun _ _ _ h => h) (Or.inr ⟨by rfl, rfl⟩) hHeld ?_
        go_frame
        refine held_take (i := 14) (v := undef) rfl (by kernel_rfl) (by kernel_rfl) (by kernel_rfl) (fun _ _ _ h => h) (Or.inr ⟨by rfl, rfl⟩) hHeld ?_
        go_frame
        refine held_take (i := 15) (v := undef) rfl (by kernel_rfl) (by kernel_rfl) (by kernel_rfl) (fun _ _ _ h => h) (Or.inr ⟨by rfl, rfl⟩) hHeld ?_
        go_frame
        refine held_take (i := 16) (v := undef) rfl (by kernel_rfl) (by kernel_rfl) (by kernel_rfl) (fun _ _ _ h => h) (Or.inr ⟨by rfl, rfl⟩) hHeld ?_
        go_frame
        refine held_take (i := 17) (v := undef) rfl (by kernel_rfl) (by kernel_rfl) (by kernel_rfl) (fun _ _ _ h => h) (Or.inr ⟨by rfl, rfl⟩) hHeld ?_
        go_frame
        refine held_take (i := 18) (v := undef) rfl (by kernel_rfl) (by kernel_rfl) (by kernel_rfl) (fun _ _ _ h => h) (Or.inr ⟨by rfl, rfl⟩) hHeld ?_
        go_frame
        refine held_take (i := 19) (v := (.bool false)) rfl (by kernel_rfl) (by kernel_rfl) (by kernel_rfl) (fun _ _ _ h => h) (Or.inl ⟨by rfl, fun w' _ => by kernel_rfl⟩) hHeld ?_
        go_frame
        refine held_take (i := 20) (v := (.int .i64 (k : Int))) rfl (by kernel_rfl) (by kernel_rfl) (by kernel_rfl) (fun _ _ _ h => h) (Or.inl ⟨by rfl, fun w' _ => by kernel_rfl⟩) hHeld ?_
        go_frame
        refine held_take (i := 21) (v := (.bool false)) rfl (by kernel_rfl) (by kernel_rfl) (by kernel_rfl) (fun _ _ _ h => h) (Or.inl ⟨by rfl, fun w' _ => by kernel_rfl⟩) hHeld ?_
        go_frame
        refine wpAnyH_done (by kernel_rfl) ?_ _
        have BH := Lib.hid hHeld
        clear hHeld
        go_wp2_with fail
        go_ret2
        exact ⟨k, by rw [IS.out]; rfl, RK.out, B1.out.trans (BH.out.mono W1.out)⟩
end Go.Proofs.YtlmfchcafhidoaaDoor.Sha

/-
  Parts of a slice of elements of any size; a literal in a region that draws its order. No conditions beyond those that each states.
-/
namespace Go.Proofs.YtlmfchcafhidoaaDoor.Sha
open Go Go.RowKit
theorem run_cutS_lh {P : Program} {w : World} (t e : TypeId) (s : Nat) (sp : Option Addr) (n cap l r : Nat) (hu : P.underlying t = some (.slice e)) (hsz : (P.info? e).map (·.size) = some s) (h1 : l ≤ r) (h2 : r ≤ cap) :
    (Instr.sliceAt t (.slice sp n cap) (some (.int .i64 l)) (some (.int .i64 r)) none).run P w = .ok (sliced sp l r cap s) w := by
  obtain ⟨i, hi, hs⟩ := Option.map_eq_some_iff.1 hsz
  have hu' : P.underlying t = some (.slice (P.elem t)) := by rw [elem_of hu]; exact hu
  rw [run_sliceAt_slice _ _ _ _ _ _ hu', run_slice_lh _ _ _ _ _ hu' _ _ _ _ (by omega) (by omega) (by omega), elem_of hu]
  simp [sizeOf, typeInfo, hi, hs, sliced, go_sem]
theorem run_cutS_h {P : Program} {w : World} (t e : TypeId) (s : Nat) (sp : Option Addr) (n cap r : Nat) (hu : P.underlying t = some (.slice e)) (hsz : (P.info? e).map (·.size) = some s) (h2 : r ≤ cap) :
    (Instr.sliceAt t (.slice sp n cap) none (some (.int .i64 r)) none).run P w = .ok (sliced sp 0 r cap s) w := by
  obtain ⟨i, hi, hs⟩ := Option.map_eq_some_iff.1 hsz
  have hu' : P.underlying t = some (.slice (P.elem t)) := by rw [elem_of hu]; exact hu
  rw [run_sliceAt_slice _ _ _ _ _ _ hu', run_slice_h _ _ _ _ _ hu' _ _ (by omega) (by omega), elem_of hu]
  simp [sizeOf, typeInfo, hi, hs, sliced, go_sem]
theorem run_cutS_l {P : Program} {w : World} (t e : TypeId) (s : Nat) (sp : Option Addr) (n cap l : Nat) (hu : P.underlying t = some (.slice e)) (hsz : (P.info? e).map (·.size) = some s) (h1 : l ≤ n) :
    (Instr.sliceAt t (.slice sp n cap) (some (.int .i64 l)) none none).run P w = .ok (sliced sp l n cap s) w := by
  obtain ⟨i, hi, hs⟩ := Option.map_eq_some_iff.1 hsz
  have hu' : P.underlying t = some (.slice (P.elem t)) := by rw [elem_of hu]; exact hu
  rw [run_sliceAt_slice _ _ _ _ _ _ hu', run_slice_l _ _ _ _ _ hu' _ _ (by omega) (by omega), elem_of hu]
  simp [sizeOf, typeInfo, hi, hs, sliced, go_sem]
section
variable {P : Program} {w : World} {ops : Array Oper} {rest : List Oper} {o : Oper} {a : Act} {Q : Exit → Act → World → Prop}
theorem wpList_cutS_lh (hgd : o.guard = none) (t : TypeId) (x lo hi : Operand) (ho : o.op = .slice t x (some lo) (some hi) none) (e : TypeId) (s : Nat) (hu : P.underlying t = some (.slice e)) (hsz : (P.info? e).map (·.size) = some s)
    (sp : Option Addr) (n cap : Nat) (l r : Nat) (hx : a.eval x = .slice sp n cap) (hl : a.eval lo = .int .i64 l) (hr : a.eval hi = .int .i64 r) (h1 : l ≤ r) (h2 : r ≤ cap)
    (h : ∀ v, Hid (v = sliced sp l r cap s) → wpList P ops Q rest (a.put o.dst v) w) : wpList P ops Q (o :: rest) a w := by
  refine wpList_plain hgd fun K hK => ?_
  unfold Oper.wp
  simp [execOp, ho, hx, hl, hr, run_cutS_lh (w := w) t e s sp n cap l r hu hsz h1 h2, Result.andThen]
  exact hK _ _ (h _ rfl)
theorem wpList_cutS_h (hgd : o.guard = none) (t : TypeId) (x hi : Operand) (ho : o.op = .slice t x none (some hi) none) (e : TypeId) (s : Nat) (hu : P.underlying t = some (.slice e)) (hsz : (P.info? e).map (·.size) = some s)
    (sp : Option Addr) (n cap : Nat) (r : Nat) (hx : a.eval x = .slice sp n cap) (hr : a.eval hi = .int .i64 r) (h2 : r ≤ cap)
    (h : ∀ v, Hid (v = sliced sp 0 r cap s) → wpList P ops Q rest (a.put o.dst v) w) : wpList P ops Q (o :: rest) a w := by
  refine wpList_plain hgd fun K hK => ?_
  unfold Oper.wp
  simp [execOp, ho, hx, hr, run_cutS_h (w := w) t e s sp n cap r hu hsz h2, Result.andThen]
  exact hK _ _ (h _ rfl)
theorem wpList_cutS_l (hgd : o.guard = none) (t : TypeId) (x lo : Operand) (ho : o.op = .slice t x (some lo) none none) (e : TypeId) (s : Nat) (hu : P.underlying t = some (.slice e)) (hsz : (P.info? e).map (·.size) = some s)
    (sp : Option Addr) (n cap : Nat) (l : Nat) (hx : a.eval x = .slice sp n cap) (hl : a.eval lo = .int .i64 l) (h1 : l ≤ n)
    (h : ∀ v, Hid (v = sliced sp l n cap s) → wpList P ops Q rest (a.put o.dst v) w) : wpList P ops Q (o :: rest) a w := by
  refine wpList_plain hgd fun K hK => ?_
  unfold Oper.wp
  simp [execOp, ho, hx, hl, run_cutS_l (w := w) t e s sp n cap l hu hsz h1, Result.andThen]
  exact hK _ _ (h _ rfl)
theorem yields_cutS_l {S : World → Prop} (hw : Region.wanted o (yielded ops a.tmps) = true) (t : TypeId) (x lo : Operand) (ho : o.op = .slice t x (some lo) none none) (e : TypeId) (s : Nat) (hu : P.underlying t = some (.slice e)) (hsz : (P.info? e).map (·.size) = some s)
    (sp : Option Addr) (n cap l : Nat) (v : Value) (hx : a.eval x = .slice sp n cap) (hl : a.eval lo = .int .i64 l) (h1 : l ≤ n) (hv : v = sliced sp l n cap s) : YieldsIf P ops S o v a :=
  .inl ⟨hw, fun w _ => by simp [execOp, ho, hx, hl, run_cutS_l (w := w) t e s sp n cap l hu hsz h1, Result.andThen, hv]⟩
theorem yields_cutS_h {S : World → Prop} (hw : Region.wanted o (yielded ops a.tmps) = true) (t : TypeId) (x hi : Operand) (ho : o.op = .slice t x none (some hi) none) (e : TypeId) (s : Nat) (hu : P.underlying t = some (.slice e)) (hsz : (P.info? e).map (·.size) = some s)
    (sp : Option Addr) (n cap r : Nat) (v : Value) (hx : a.eval x = .slice sp n cap) (hr : a.eval hi = .int .i64 r) (h2 : r ≤ cap) (hv : v = sliced sp 0 r cap s) : YieldsIf P ops S o v a :=
  .inl ⟨hw, fun w _ => by simp [execOp, ho, hx, hr, run_cutS_h (w := w) t e s sp n cap r hu hsz h2, Result.andThen, hv]⟩
end
theorem yieldsIf_build {P : Program} {ops : Array Oper} {S : World → Prop} {op : Oper} {a : Act} (hw : Region.wanted op (yielded ops a.tmps) = true) (t : TypeId) (parts : Array (Nat × Operand)) (ho : op.op = .build t parts) (ps : List (Nat × Value)) (hps : (parts.map fun (i, x) => (i, a.eval x)).toList = ps) (cs : Array Value)
    (hf : P.built t ps = some cs) : YieldsIf P ops S op (.agg cs) a :=
  .inl ⟨hw, fun w _ => by
    unfold execOp
    subst hps
    simp only [ho, Sem.run_bind, run_build w t _ _ hf, Result.andThen_ok, Sem.run_pure]⟩
end Go.Proofs.YtlmfchcafhidoaaDoor.Sha

/-
  The statements' own copy of a row of coins: new memory; a row put behind an own one, whatever stands in either. Nothing that was there turns. Conditions: the coins lie where the slice says, at most 2^20 of them.
-/
namespace Go.Proofs.YtlmfchcafhidoaaDoor.Sha
open Go Go.RowKit
theorem RwAt.flat {k : Nat} {w : World} {b o : Nat} {L : List (List Value)} (ha : AllK k L) (h : ∀ i x, L[i]? = some x → w.rangeAt b (o + i * k) x) : w.rangeAt b o L.flatten := by
  intro j u hj
  have hjl := (List.getElem?_eq_some_iff.1 hj).1
  rw [flatten_length L ha] at hjl
  have hk : 0 < k := by
    rcases Nat.eq_zero_or_pos k with h0 | h0
    · rw [h0, Nat.mul_zero] at hjl; omega
    · exact h0
  have hq : j / k < L.length := Nat.div_lt_of_lt_mul (by rw [Nat.mul_comm]; exact hjl)
  obtain ⟨x, hx⟩ : ∃ x, L[j / k]? = some x := ⟨_, List.getElem?_eq_getElem hq⟩
  have hm := Nat.div_add_mod j k
  have hr := Nat.mod_lt j hk
  have h1 := flatten_get L (j / k) x ha hx (j % k) hr
  rw [Nat.mul_comm] at hm
  rw [hm, hj] at h1
  have h2 := h (j / k) x hx (j % k) u h1.symm
  rwa [Nat.add_assoc, hm] at h2
/-- A row put behind an own one, whatever stands in either. -/
theorem wp_append_rw (w : World) {op : Oper} {a : Act} {K : Act → World → Prop} {Q : Exit → Act → World → Prop} (s x : Operand) (t : TypeId)
    (hop : op.op = Op.call { callee := Callee.builtin Builtin.append, args := #[s, x], argTypes := #[t, t] })
    (base : Nat) (e : TypeId) (i : TypeInfo) (z : Value) (k bytes : Nat) (h1 : Tryd.prog.underlying t = some (.slice e)) (h2 : Tryd.prog.info? e = some i) (hz : i.zero = some z) (hk : i.size = k) (hb : i.bytes = bytes) (hzs : z.cells.size = k) (hk0 : 0 < k)
    (v : Value) (L : List (List Value)) (hs : a.eval s = v) (hown : RwOwn k e base w v L) (y : Value) (M : List (List Value)) (hx : a.eval x = y) (hsrc : RwAt k w y M) (hone : ∀ m ∈ M, ∀ u ∈ m, u.oneCell' = true)
    (hlen : (L.length + M.length) * bytes ≤ 140737488355328) (hmax : L.length + M.length ≤ maxLen) (hbase : base ≤ w.heap.size)
    (hK : ∀ v' w', RwOwn k e base w' v' (L ++ M) → w.grownBy w' v.ownBlock → K (a.put op.dst v') w') : op.wp Tryd.prog a w K Q := by
  obtain ⟨hM, sp, cap, rfl, hc, hr⟩ := hsrc
  cases M with
  | nil =>
    have hrun := run_append_any0 (P := Tryd.prog) (w := w) base t op.type e i h1 h2 v L.length L.flatten (by rw [hk]; exact hown.1) sp cap
    unfold Oper.wp
    simp [execOp, hop, resolve, invoke, builtin, hs, hx, hrun, Result.andThen]
    refine hK v w ?_ (grownBy_refl _ _)
    rw [List.append_nil]
    exact hown
  | cons m M =>
    obtain ⟨b, o, rfl, hr2⟩ := hr (by simp)
    have hf := RwAt.flat hM hr2
    obtain ⟨v', w', hrun, a1, a2, _, _⟩ := run_append_own_at (P := Tryd.prog) w base t op.type e i z k bytes h1 h2 hz hk hb hzs hk0 v L.length L.flatten hown.1 ⟨b, o, none⟩ (m :: M).length cap (m :: M).flatten (flatten_length _ hM)
      (fun j u hu => by rw [Addr.add_mid]; exact hf j u hu) (fun u hu => by
        obtain ⟨q, hq, hu⟩ := List.mem_flatten.1 hu
        exact hone q hq u hu) hmax hlen hbase
    unfold Oper.wp execOp
    simp only [hop, resolve, invoke, builtin, Sem.run_bind, Sem.run_pure, Result.andThen_ok, List.map_toArray, List.map_cons, List.map_nil, hs, hx, hrun]
    refine hK v' w' ⟨?_, fun q hq => ?_⟩ a2
    · rw [List.length_append, List.flatten_append]
      exact a1
    · rcases List.mem_append.1 hq with h | h
      · exact hown.2 q h
      · exact hM q h
theorem wpList_append_rw (w : World) {ops : Array Oper} {rest : List Oper} {op : Oper} {a : Act} {Q : Exit → Act → World → Prop} (hg : op.guard = none) (s x : Operand) (t : TypeId)
    (hop : op.op = Op.call { callee := Callee.builtin Builtin.append, args := #[s, x], argTypes := #[t, t] })
    (base : Nat) (e : TypeId) (i : TypeInfo) (z : Value) (k bytes : Nat) (h1 : Tryd.prog.underlying t = some (.slice e)) (h2 : Tryd.prog.info? e = some i) (hz : i.zero = some z) (hk : i.size = k) (hb : i.bytes = bytes) (hzs : z.cells.size = k) (hk0 : 0 < k)
    (v : Value) (L : List (List Value)) (hs : a.eval s = v) (hown : RwOwn k e base w v L) (y : Value) (M : List (List Value)) (hx : a.eval x = y) (hsrc : RwAt k w y M) (hone : ∀ m ∈ M, ∀ u ∈ m, u.oneCell' = true)
    (hlen : (L.length + M.length) * bytes ≤ 140737488355328) (hmax : L.length + M.length ≤ maxLen) (hbase : base ≤ w.heap.size)
    (hK : ∀ v' w', RwOwn k e base w' v' (L ++ M) → w.grownBy w' v.ownBlock → wpList Tryd.prog ops Q rest (a.put op.dst v') w') : wpList Tryd.prog ops Q (op :: rest) a w :=
  wpList_plain hg fun _ hK' => wp_append_rw w s x t hop base e i z k bytes h1 h2 hz hk hb hzs hk0 v L hs hown y M hx hsrc hone hlen hmax hbase fun v' w' q1 q2 => hK' _ _ (hK v' w' q1 q2)
theorem RwAt.one {k : Nat} {w : World} {g : Nat} {T : TypeId} {fr : Nat × Nat} {x : List Value} (h : w.heap[g]? = some (.cells x.toArray T fr)) (hx : x.length = k) : RwAt k w (.slice (some ⟨g, 0, none⟩) 1 1) [x] := by
  refine ⟨fun y hy => by rw [List.mem_singleton.1 hy]; exact hx, some ⟨g, 0, none⟩, 1, rfl, Nat.le_refl _, fun _ => ⟨g, 0, rfl, fun i y hy => ?_⟩⟩
  match i, hy with
  | 0, hy =>
    simp only [List.getElem?_cons_zero, Option.some.injEq] at hy
    subst hy
    rw [Nat.zero_mul, Nat.zero_add]
    exact range_of_box h
  | i + 1, hy => simp at hy
theorem RwOwn.lower {k : Nat} {T : TypeId} {base base' : Nat} {w : World} {v : Value} {L : List (List Value)} (h : RwOwn k T base w v L) (hb : base' ≤ base) : RwOwn k T base' w v L := ⟨own_base h.1 hb, h.2⟩
theorem sps_one (l : List TSp) : ∀ m ∈ l.map spL, ∀ u ∈ m, u.oneCell' = true := fun m hm => by
  obtain ⟨x, _, rfl⟩ := List.mem_map.1 hm
  exact spL_one x
def spsInv (l : List TSp) (w : World) (vs vi : Value) (wr : World) : Prop :=
  ∃ (k : Nat) (vb : Value), vb = vs ∧ vi = .int .i64 (k : Int) ∧ k ≤ l.length ∧ RwOwn 68 45 w.heap.size wr vb ((l.take k).map spL) ∧ Below w.heap.size w wr
set_option maxHeartbeats 2000000 in
set_option maxRecDepth 100000 in
theorem rspents_any (l : List TSp) (v : Value) (w : World) (hl : RwAt 68 w v (l.map spL)) (ho : ∀ x ∈ l, SpOk x) (hn : l.length ≤ 1048576) :
    Calls Tryd.prog 31 #[v] w fun e w' => ∃ v', e = .returned v' ∧ RwOwn 68 45 w.heap.size w' v' (l.map spL) ∧ Below w.heap.size w w' := by
  obtain ⟨i0, hi, hz0, hz1, hz2⟩ := info_parts info_spent
  obtain ⟨sp, cap, rfl⟩ := hl.shape
  rw [List.length_map] at hl ⊢
  obtain ⟨n, hnl⟩ : ∃ n, n = l.length := ⟨_, rfl⟩
  rw [← hnl] at hl hn ⊢
  have HN := Lib.hid hnl
  have OK := Lib.hid ho
  have HL := Lib.hid hl
  clear hl ho hnl
  go_enter Tryd.func31, Tryd.ntmps31
  go_wp2_with (at_make; refine wpList_make_own _ rfl _ _ 34 rfl w.heap.size 45 i0 (.agg (spL ⟨⟨List.replicate 32 0, 0⟩, mnZ⟩).toArray) 68 Tryd.underlying34 hi hz0 hz1 _ _ _ n rfl rfl rfl (by rw [hz2]; omega) (by unfold maxLen; omega) (Nat.le_refl _) ?_; intro w2 hown hgrow; have HO0 := Lib.hid hown; have HG0 := Lib.hid hgrow; clear hown hgrow; go_frame)
  have HB0 := Lib.hid ((Below.refl _ _).grown HG0.out (Nat.le_refl _) (fun k hk => by cases hk))
  have HST : Hid (RwOwn 68 45 w.heap.size w2 (.slice (some ⟨w.heap.size, 0, none⟩) 0 n) ((l.take 0).map spL)) := ⟨HO0.out, fun x hx => by simp at hx⟩
  clear HO0 HG0
  go_loopw [3, 4] (fun vs vi wr => spsInv l w vs vi wr) (fun _ vi _ => n - (intOf vi).toNat)
  case atStart => exact ⟨0, _, rfl, rfl, Nat.zero_le _, HST.out, HB0.out⟩
  case round =>
    clear HST HB0
    obtain ⟨k, vb, rfl, rfl, hk, ho, hb⟩ := hrel
    have HO := Lib.hid ho
    have B := Lib.hid hb
    clear ho hb
    rw [← HN.out] at hk
    by_cases hlt : k < n
    · obtain ⟨b, o, rfl, hg⟩ := (HL.out.below B.out).get (by omega)
      have hkl : k < l.length := by rw [← HN.out]; exact hlt
      obtain ⟨x, hx⟩ : ∃ x, l[k]? = some x := ⟨_, List.getElem?_eq_getElem hkl⟩
      have ox := OK.out x (List.mem_of_getElem? hx)
      have HX := Lib.hid (hg k (spL x) (by rw [List.getElem?_map, hx]; rfl))
      have LX : Hid ((spL x).length = 68) := spL_length ox
      have LO : Hid (∀ v ∈ spL x, v.oneCell' = true) := spL_one x
      have HT : Hid ((l.take (k + 1)).map spL = (l.take k).map spL ++ [spL x]) := by
        show _ = _
        rw [List.take_succ_eq_append_getElem hkl, (List.getElem?_eq_some_iff.1 hx).2, List.map_append, List.map_singleton]
      have HTL : Hid (((l.take k).map spL).length ≤ 1048576) := by show _ ≤ _; rw [List.length_map, List.length_take]; omega
      have p0 : 0 ≤ (k : Int) := by omega
      have q0 : (k : Int) < (n : Int) := by omega
      clear hg hx ox hkl
      go_wp2_with (first | ((with_reducible show wpList _ _ _ _ _ _); first | (refine wpList_load_mid rfl 45 (.tmp 17) rfl b (o + k * 68) rfl (spL x) _ HX.out Tryd.underlying45 rfl (by rw [LX.out]; kernel_rfl) ?_; go_frame) | (refine wpList_slice_one rfl 34 45 (.tmp 18) rfl (spL x) rfl Tryd.underlying34 i0 _ hi hz0 (by rw [hz1, LX.out]) (by rw [LX.out]; omega) (by rw [LX.out]; omega) ?_; have nf := heap_alloc_new wr (.cells (spL x).toArray 45 (0, 0)); have bb := (Below.refl wr.heap.size wr).alloc (Nat.le_refl _) (.cells (spL x).toArray 45 (0, 0)); obtain ⟨gn, hgn⟩ : ∃ gn, gn = wr.heap.size := ⟨_, rfl⟩; generalize hw2 : World.alloc _ _ = w2; have e2 : wr.alloc (.cells (spL x).toArray 45 (0, 0)) = w2 := hw2; rw [e2] at nf bb; rw [← hgn] at nf ⊢; have NF := Lib.hid nf; have HO2 := Lib.hid (HO.out.keep bb); have B2 := Lib.hid (B.out.trans (bb.mono B.out.size)); clear nf bb hw2 e2 hgn; go_frame)) | (at_builtin; refine wpList_append_own_at _ rfl _ _ 34 rfl w.heap.size 45 i0 (.agg (spL ⟨⟨List.replicate 32 0, 0⟩, mnZ⟩).toArray) 68 96 Tryd.underlying34 hi hz0 hz1 hz2 (by kernel_rfl) (by decide) vb _ ((l.take k).map spL).flatten rfl HO2.out.1 ⟨gn, 0, none⟩ 1 1 (spL x) rfl (by rw [LX.out]) (fun j u hj => by rw [Addr.add_mid]; exact range_of_box NF.out j u hj) LO.out (by have := HTL.out; unfold maxLen; omega) (by have := HTL.out; omega) B2.out.size ?_; intro v3 w3 q1 q2 _ q4; have HO3 : Hid (RwOwn 68 45 w.heap.size w3 v3 ((l.take k).map spL ++ [spL x])) := RwOwn.push HO2.out.2 LX.out q1; have B3 := Lib.hid (own_grown B2.out (Nat.le_refl _) B2.out.size HO2.out.1 q2); clear q1 q2 q4; go_frame))
      go_roundw
      case rel => exact ⟨k + 1, _, rfl, by go_num, by rw [← HN.out]; omega, by rw [HT.out]; exact HO3.out, B3.out⟩
      case measure => simp [intOf]; omega
    · have HF : Hid (RwOwn 68 45 w.heap.size wr vb (l.map spL)) := by
        have h := HO.out
        rw [List.take_of_length_le (by rw [← HN.out]; omega)] at h
        exact h
      have hge : ¬ (k : Int) < (n : Int) := by omega
      clear HO
      go_wp2_with fail
      go_ret
      exact ⟨_, rfl, HF.out, B.out⟩
end Go.Proofs.YtlmfchcafhidoaaDoor.Sha
