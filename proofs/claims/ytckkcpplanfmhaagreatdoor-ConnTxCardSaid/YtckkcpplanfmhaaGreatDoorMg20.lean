/-
  Texts of this proof joined into one file: CoSet, ConnTxWalk. What each holds, and under which conditions, its own first sentence tells.
-/
import Derived.Test.YtckkcpplanfmhaaGreatDoorMg17
import Derived.Test.YtckkcpplanfmhaaGreatDoorMg03
import Derived.Test.YtckkcpplanfmhaaGreatDoorMg18
import Derived.Test.YtckkcpplanfmhaaGreatDoorMg13
/-
  The statements of chapter 16: whether coins and numbers may be asked of; two sets told alike. Conditions: the coins lie in memory.
-/
namespace Go.Proofs.YtckkcpplanfmhaaGreatDoor.Sha
open Go Go.RowKit
def CoPl (l : List TSp) (height mat : Int) : Prop := 1 ≤ height ∧ height ≤ 1000 ∧ 0 ≤ mat ∧ mat ≤ 1000 ∧ l.length ≤ 40 ∧ ∀ x ∈ l, 0 ≤ x.coin.height ∧ x.coin.height ≤ 2000
def CoPlP (l : List TSp) (height mat : Int) (w : World) (e : Ending) (w' : World) : Prop := ∃ b, e = .returned (.bool b) ∧ w = w' ∧ (b = true → CoPl l height mat)
theorem numE_zero' (c : Nat) : numE c = 0 ↔ c = 0 := by
  cases c with
  | zero => exact ⟨fun _ => rfl, fun _ => rfl⟩
  | succ q => exact ⟨fun h => by have : ((101 + q : Nat) : Int) = 0 := h; omega, fun h => by omega⟩
set_option maxHeartbeats 2000000 in
set_option maxRecDepth 100000 in
theorem coplain_any (w : World) (v : Value) (l : List TSp) (height mat : Int) (h : RwAt 68 w v (l.map spL)) (ho : ∀ x ∈ l, SpOk x) :
    Calls Tryz.prog 8 #[v, .int .i64 height, .int .i64 mat] w (CoPlP l height mat w) := by
  obtain ⟨sp, cap, rfl⟩ := h.shape
  rw [List.length_map] at h ⊢
  obtain ⟨n, hn⟩ : ∃ n, n = l.length := ⟨_, rfl⟩
  rw [← hn] at h ⊢
  have N := Lib.hid hn
  have HL := Lib.hid h
  have OK := Lib.hid ho
  clear hn h ho
  go_enter Tryz.func8, Tryz.ntmps8
  by_cases h1 : height < 1
  · go_wp2_with fail
    go_ret
    show CoPlP _ _ _ _ _ _
    unfold CoPlP
    exact ⟨false, rfl, rfl, fun h => by cases h⟩
  by_cases h2 : (1000 : Int) < height
  · go_wp2_with fail
    go_ret
    show CoPlP _ _ _ _ _ _
    unfold CoPlP
    exact ⟨false, rfl, rfl, fun h => by cases h⟩
  by_cases h3 : mat < 0
  · go_wp2_with fail
    go_ret
    show CoPlP _ _ _ _ _ _
    unfold CoPlP
    exact ⟨false, rfl, rfl, fun h => by cases h⟩
  by_cases h4 : (1000 : Int) < mat
  · go_wp2_with fail
    go_ret
    show CoPlP _ _ _ _ _ _
    unfold CoPlP
    exact ⟨false, rfl, rfl, fun h => by cases h⟩
  by_cases h5 : (40 : Int) < (n : Int)
  · go_wp2_with fail
    go_ret
    show CoPlP _ _ _ _ _ _
    unfold CoPlP
    exact ⟨false, rfl, rfl, fun h => by cases h⟩
  have PL : Hid (1 ≤ height ∧ height ≤ 1000 ∧ 0 ≤ mat ∧ mat ≤ 1000 ∧ l.length ≤ 40) := ⟨by omega, by omega, by omega, by omega, by have := N.out; omega⟩
  go_wp2_with fail
  clear h1 h2 h3 h4
  go_loopw [7] (fun vi wr => ∃ k : Nat, vi = .int .i64 (k : Int) ∧ k ≤ n ∧ (∀ j x, j < k → l[j]? = some x → 0 ≤ x.coin.height ∧ x.coin.height ≤ 2000) ∧ w = wr) (fun vi _ => n - (intOf vi).toNat)
  case atStart => exact ⟨0, rfl, Nat.zero_le _, fun j x hj => absurd hj (by omega), rfl⟩
  case round =>
    obtain ⟨k, rfl, hk, hlow, rfl⟩ := hrel
    have LOW := Lib.hid hlow
    clear hlow
    by_cases hlt : k < n
    · obtain ⟨b, o, rfl, hg⟩ := HL.out.get (by omega)
      obtain ⟨y, hy⟩ : ∃ y, l[k]? = some y := ⟨_, List.getElem?_eq_getElem (by rw [← N.out]; exact hlt)⟩
      have hr := hg k (spL y) (by rw [List.getElem?_map, hy]; rfl)
      have yo := OK.out y (List.mem_of_getElem? hy)
      have ch := mn_height yo.2.1 (sp_mn yo hr)
      have Y := Lib.hid hy
      obtain ⟨ht, hht⟩ : ∃ z, z = y.coin.height := ⟨_, rfl⟩
      rw [← hht] at ch
      have HT := Lib.hid hht
      have p0 : 0 ≤ (k : Int) := by omega
      have p1 : (k : Int) < (n : Int) := by omega
      clear hg hr yo hy hht
      by_cases a1 : ht < 0
      · go_wp2_with fail
        go_ret
        show CoPlP _ _ _ _ _ _
        unfold CoPlP
        exact ⟨false, rfl, rfl, fun h => by cases h⟩
      by_cases a2 : (2000 : Int) < ht
      · go_wp2_with fail
        go_ret
        show CoPlP _ _ _ _ _ _
        unfold CoPlP
        exact ⟨false, rfl, rfl, fun h => by cases h⟩
      have A := Lib.hid (show 0 ≤ ht ∧ ht ≤ 2000 from ⟨by omega, by omega⟩)
      go_wp2_with fail
      go_roundw
      case rel =>
        refine ⟨k + 1, by go_num, by omega, fun j x hj hx => ?_, by first | rfl | trivial⟩
        rcases Nat.lt_or_ge j k with h | h
        · exact LOW.out j x h hx
        · have e : j = k := by omega
          rw [e, Y.out] at hx
          cases hx
          rw [← HT.out]
          exact A.out
      case measure => simp [intOf] <;> omega
    · have q0 : ¬ (k : Int) < (n : Int) := by omega
      have AL : Hid (CoPl l height mat) := ⟨PL.out.1, PL.out.2.1, PL.out.2.2.1, PL.out.2.2.2.1, PL.out.2.2.2.2, fun x hx => by
        obtain ⟨j, hj⟩ := List.getElem?_of_mem hx
        exact LOW.out j x (by have := (List.getElem?_eq_some_iff.1 hj).1; have := N.out; omega) hj⟩
      go_wp2_with fail
      go_ret
      show CoPlP _ _ _ _ _ _
      unfold CoPlP
      exact ⟨true, rfl, rfl, fun _ => AL.out⟩
def CoSetP (l : List TSp) (w : World) (e : Ending) (w' : World) : Prop := ∃ g6 g7 m v' L, e = .returned (.tuple #[.pointer (some ⟨g6, 0, none⟩), .pointer (some ⟨g7, 0, none⟩)]) ∧ CoL (coinsL l) L ∧ CoG w w' g6 m (coinsL l) g7 v' L
def CsInv (l : List TSp) (n g6 g7 : Nat) (w : World) (vi : Value) (wr : World) : Prop :=
  ∃ (k : Nat) (m : Option Nat) (v : Value) (L : List TSp), vi = .int .i64 (k : Int) ∧ k ≤ n ∧ CoL (coinsL (l.take k)) L ∧ CoG w wr g6 m (coinsL (l.take k)) g7 v L
set_option maxHeartbeats 4000000 in
set_option maxRecDepth 100000 in
theorem coset_any (E : Nat → Addr) (w : World) (v : Value) (l : List TSp) (h : RwAt 68 w v (l.map spL)) (ho : ∀ x ∈ l, SpOk x) (hmax : l.length ≤ 1000000) (hE : EC w E) :
    Calls Tryz.prog 9 #[v] w (CoSetP l w) := by
  obtain ⟨sp, cap, rfl⟩ := h.shape
  rw [List.length_map] at h ⊢
  obtain ⟨n, hn⟩ : ∃ n, n = l.length := ⟨_, rfl⟩
  rw [← hn] at h hmax ⊢
  have N := Lib.hid hn
  have HL := Lib.hid h
  have OK := Lib.hid ho
  have HE := Lib.hid hE
  have NM := Lib.hid hmax
  clear hn h ho hE hmax
  go_enter Tryz.func9, Tryz.ntmps9
  go_upto_region 3 with fail
  have f6 := row_below (heap_alloc_new w (.cells #[.map none] 76 (0, 0))) ((Below.refl _ _).alloc (Nat.le_refl _) (.cells #[.slice none 0 0] 97 (0, 0)))
  have f7 := heap_alloc_new (w.alloc (.cells #[.map none] 76 (0, 0))) (.cells #[.slice none 0 0] 97 (0, 0))
  have b1 := ((Below.refl w.heap.size w).alloc (Nat.le_refl _) (.cells #[.map none] 76 (0, 0))).alloc (by simp) (.cells #[.slice none 0 0] 97 (0, 0))
  rw [World.size_alloc] at f7
  generalize hw1 : World.alloc _ _ = w1
  have e1 : (w.alloc (.cells #[.map none] 76 (0, 0))).alloc (.cells #[.slice none 0 0] 97 (0, 0)) = w1 := hw1
  rw [e1] at f6 f7 b1
  obtain ⟨g6, hg6⟩ : ∃ g, g = w.heap.size := ⟨_, rfl⟩
  obtain ⟨g7, hg7⟩ : ∃ g, g = w.heap.size + 1 := ⟨_, rfl⟩
  have ST0 : Hid (CoG w w1 g6 none [] g7 (.slice none 0 0) []) := ⟨⟨by rw [hg6]; exact f6, rfl⟩, ⟨by rw [hg7]; exact f7, RwOwn.nil _ _ _ _⟩, (fun q e => by cases e), by omega, by omega, b1⟩
  rw [← hg7, ← hg6]
  clear f6 f7 b1 hw1 e1 hg6 hg7
  go_wp2_with fail
  go_loopw [6] (fun vi wr => CsInv l n g6 g7 w vi wr) (fun vi _ => n - (intOf vi).toNat)
  case atStart => exact ⟨0, none, _, [], rfl, Nat.zero_le _, CoL.nil, ST0.out⟩
  case round =>
    clear ST0
    obtain ⟨k, m, vv, L, rfl, hk, hpy, hst⟩ := hrel
    have PY := Lib.hid hpy
    have ST := Lib.hid hst
    have BB := Lib.hid hst.bel
    clear hpy hst
    by_cases hlt : k < n
    · obtain ⟨b, o, rfl, hg⟩ := HL.out.get (by omega)
      obtain ⟨y, hy⟩ : ∃ y, l[k]? = some y := ⟨_, List.getElem?_eq_getElem (by rw [← N.out]; exact hlt)⟩
      have hr := hg k (spL y) (by rw [List.getElem?_map, hy]; rfl)
      have yo := OK.out y (List.mem_of_getElem? hy)
      have PX := Lib.hid (sp_pt hr)
      have MX := Lib.hid (sp_mn yo hr)
      have LP : Hid ((ptC y.at_).length = 33) := ptC_length yo.1
      have LM : Hid ((mnL y.coin).length = 35) := mnL_length yo.2
      have SL : Hid ((coinsL (l.take k)).length ≤ 1000000) := by show _ ≤ _; have h1 := coinsL_len (l.take k); rw [List.length_take] at h1; have := NM.out; omega
      have RAD : Hid (∀ W m v', CoG w W g6 m (coinsL (l.take k)) g7 v' L → Calls Tryz.prog 32 #[.pointer (some ⟨g7, 0, none⟩), .agg (ptC y.at_).toArray, .agg (mnL y.coin).toArray] W fun e w' => e = .returned (.int .i64 (numE (addR (coinsL (l.take k)) y.at_ y.coin))) ∧ ∃ v' L', CoL (addL (coinsL (l.take k)) y.at_ y.coin) L' ∧ CoG w w' g6 m (coinsL (l.take k)) g7 v' L') := fun W m v' hst => co_radd hst PY.out (by have := SL.out; omega) y.at_ y.coin yo.1 yo.2
      have AD : Hid (∀ W m v' L', CoG w W g6 m (coinsL (l.take k)) g7 v' L' → Calls Tryz.prog 19 #[.pointer (some ⟨g6, 0, none⟩), .agg (ptC y.at_).toArray, .agg (mnL y.coin).toArray] W fun e w' => e = .returned (errV E (addR (coinsL (l.take k)) y.at_ y.coin)) ∧ ∃ m', CoG w w' g6 m' (addL (coinsL (l.take k)) y.at_ y.coin) g7 v' L') := fun W m v' L' hst => co_add hst E (HE.out.below hst.bel) y.at_ y.coin yo.1 yo.2
      have TK : Hid (coinsL (l.take (k + 1)) = addL (coinsL (l.take k)) y.at_ y.coin) := coinsL_take hy
      have NOA : Hid (addR (coinsL (l.take k)) y.at_ y.coin ≠ 0 → addL (coinsL (l.take k)) y.at_ y.coin = coinsL (l.take k)) := addL_no
      obtain ⟨ar, har⟩ : ∃ a, a = addR (coinsL (l.take k)) y.at_ y.coin := ⟨_, rfl⟩
      rw [← har] at RAD AD NOA
      obtain ⟨s2, hs2⟩ : ∃ s, s = addL (coinsL (l.take k)) y.at_ y.coin := ⟨_, rfl⟩
      rw [← hs2] at RAD AD NOA TK
      obtain ⟨s, hs⟩ : ∃ s, s = coinsL (l.take k) := ⟨_, rfl⟩
      rw [← hs] at RAD AD NOA ST PY
      obtain ⟨cp, hcp⟩ : ∃ c, c = ptC y.at_ := ⟨_, rfl⟩
      rw [← hcp] at RAD AD LP PX
      obtain ⟨cm, hcm⟩ : ∃ c, c = mnL y.coin := ⟨_, rfl⟩
      rw [← hcm] at RAD AD LM MX
      have p0 : 0 ≤ (k : Int) := by omega
      have p1 : (k : Int) < (n : Int) := by omega
      clear hg hr yo hy har hs2 hs hcp hcm
      go_upto_region 6 with fail
      by_cases hz : ar = 0
      · have AZ : Hid ((numE ar == 0) = true) := by show _ = _; rw [hz]; rfl
        clear hz
        refine wp_region_held_drew (S := (fun w' => Below w.heap.size w w')) (by kernel_rfl) (Below.drew BB.out) (fun hHeld => ?_)
        have ST := Lib.hid (ST.out.below (Below.drew (Below.refl _ _)))
        generalize hwd : wr.drew = wd at ST hHeld ⊢
        clear hwd
        refine held_take (i := 0) (v := (.pointer (some ⟨g7, 0, none⟩))) rfl (by kernel_rfl) (by kernel_rfl) (by kernel_rfl) (fun _ _ _ h => h) (Or.inl ⟨by rfl, fun w' _ => by kernel_rfl⟩) hHeld ?_
        go_frame
        refine held_take (i := 1) (v := (.slice (some ⟨b, o, none⟩) n cap)) rfl (by kernel_rfl) (by kernel_rfl) (by kernel_rfl) (fun _ _ _ h => h) (Or.inl ⟨by rfl, fun w' _ => by kernel_rfl⟩) hHeld ?_
        go_frame
        refine held_take (i := 2) (v := (.int .i64 (k : Int))) rfl (by kernel_rfl) (by kernel_rfl) (by kernel_rfl) (fun _ _ _ h => h) (Or.inl ⟨by rfl, fun w' _ => by kernel_rfl⟩) hHeld ?_
        go_frame
        refine held_take (i := 3) (v := (.pointer (some ⟨b, o + k * 68, none⟩))) rfl (by kernel_rfl) (by kernel_rfl) (by kernel_rfl) (fun _ _ _ h => h) (Or.inl ⟨by rfl, fun w' _ => by go_simp⟩) hHeld ?_
        go_frame
        refine held_take (i := 4) (v := (.pointer (some ⟨b, o + k * 68, none⟩))) rfl (by kernel_rfl) (by kernel_rfl) (by kernel_rfl) (fun _ _ _ h => h) (Or.inl ⟨by rfl, fun w' _ => by kernel_rfl⟩) hHeld ?_
        go_frame
        refine held_take (i := 5) (v := (.agg cp.toArray)) rfl (by kernel_rfl) (by kernel_rfl) (by kernel_rfl) (fun _ _ _ h => h) (Sha.yieldsIf_load_mid (by rfl) 50 (.tmp 21) rfl b (o + k * 68) rfl cp _ (fun w' hw' => range_below PX.out hw') Tryz.underlying50 rfl (by rw [LP.out]; kernel_rfl)) hHeld ?_
        go_frame
        refine held_take (i := 6) (v := (.slice (some ⟨b, o, none⟩) n cap)) rfl (by kernel_rfl) (by kernel_rfl) (by kernel_rfl) (fun _ _ _ h => h) (Or.inl ⟨by rfl, fun w' _ => by kernel_rfl⟩) hHeld ?_
        go_frame
        refine held_take (i := 7) (v := (.int .i64 (k : Int))) rfl (by kernel_rfl) (by kernel_rfl) (by kernel_rfl) (fun _ _ _ h => h) (Or.inl ⟨by rfl, fun w' _ => by kernel_rfl⟩) hHeld ?_
        go_frame
        refine held_take (i := 8) (v := (.pointer (some ⟨b, o + k * 68, none⟩))) rfl (by kernel_rfl) (by kernel_rfl) (by kernel_rfl) (fun _ _ _ h => h) (Or.inl ⟨by rfl, fun w' _ => by go_simp⟩) hHeld ?_
        go_frame
        refine held_take (i := 9) (v := (.pointer (some ⟨b, o + k * 68 + 33, none⟩))) rfl (by kernel_rfl) (by kernel_rfl) (by kernel_rfl) (fun _ _ _ h => h) (Or.inl ⟨by rfl, fun w' _ => by kernel_rfl⟩) hHeld ?_
        go_frame
        refine held_take (i := 10) (v := (.agg cm.toArray)) rfl (by kernel_rfl) (by kernel_rfl) (by kernel_rfl) (fun _ _ _ h => h) (Sha.yieldsIf_load_mid (by rfl) 46 (.tmp 26) rfl b (o + k * 68 + 33) rfl cm _ (fun w' hw' => range_below MX.out hw') Tryz.underlying46 rfl (by rw [LM.out]; kernel_rfl)) hHeld ?_
        go_frame
        refine wpAnyH_ready (rs := [11]) (by kernel_rfl) (by simp) (held_cons rfl (fun K hK => ?_) AllReadyH.nil)
        go_simp
        refine (RAD.out _ _ _ ST.out).mono ?_
        rintro e v1 ⟨rfl, v2, L2, q1, q2⟩
        have bb := q2.bel
        have PY2 := Lib.hid q1
        have ST2 := Lib.hid q2
        clear q1 q2 ST
        have hv1 := bb
        clear bb hHeld
        go_wp2_with fail
        refine hK.out _ _ hv1 (fun hHeld => ?_)
        clear hK K hv1
        refine held_take (i := 12) (v := (.bool true)) rfl (by kernel_rfl) (by kernel_rfl) (by kernel_rfl) (fun _ _ _ h => h) (Or.inl ⟨by rfl, fun w' _ => by go_simp; first | exact AZ.out | simpa using AZ.out⟩) hHeld ?_
        go_frame
        refine wpAnyH_done (by kernel_rfl) ?_ _
        obtain ⟨w6, hw6⟩ : ∃ w, w = v1 := ⟨_, rfl⟩
        rw [← hw6] at hHeld ST2 ⊢
        clear hw6 hHeld
        go_upto_region 7 with fail
        refine wp_region_held_drew (S := (fun w' => Below w.heap.size w w')) (by kernel_rfl) (Below.drew ST2.out.bel) (fun hHeld => ?_)
        have ST2 := Lib.hid (ST2.out.below (Below.drew (Below.refl _ _)))
        generalize hwd : w6.drew = wd at ST2 hHeld ⊢
        clear hwd
        refine held_take (i := 0) (v := (.pointer (some ⟨g6, 0, none⟩))) rfl (by kernel_rfl) (by kernel_rfl) (by kernel_rfl) (fun _ _ _ h => h) (Or.inl ⟨by rfl, fun w' _ => by kernel_rfl⟩) hHeld ?_
        go_frame
        refine held_take (i := 1) (v := (.slice (some ⟨b, o, none⟩) n cap)) rfl (by kernel_rfl) (by kernel_rfl) (by kernel_rfl) (fun _ _ _ h => h) (Or.inl ⟨by rfl, fun w' _ => by kernel_rfl⟩) hHeld ?_
        go_frame
        refine held_take (i := 2) (v := (.int .i64 (k : Int))) rfl (by kernel_rfl) (by kernel_rfl) (by kernel_rfl) (fun _ _ _ h => h) (Or.inl ⟨by rfl, fun w' _ => by kernel_rfl⟩) hHeld ?_
        go_frame
        refine held_take (i := 3) (v := (.pointer (some ⟨b, o + k * 68, none⟩))) rfl (by kernel_rfl) (by kernel_rfl) (by kernel_rfl) (fun _ _ _ h => h) (Or.inl ⟨by rfl, fun w' _ => by go_simp⟩) hHeld ?_
        go_frame
        refine held_take (i := 4) (v := (.pointer (some ⟨b, o + k * 68, none⟩))) rfl (by kernel_rfl) (by kernel_rfl) (by kernel_rfl) (fun _ _ _ h => h) (Or.inl ⟨by rfl, fun w' _ => by kernel_rfl⟩) hHeld ?_
        go_frame
        refine held_take (i := 5) (v := (.agg cp.toArray)) rfl (by kernel_rfl) (by kernel_rfl) (by kernel_rfl) (fun _ _ _ h => h) (Sha.yieldsIf_load_mid (by rfl) 50 (.tmp 34) rfl b (o + k * 68) rfl cp _ (fun w' hw' => range_below PX.out hw') Tryz.underlying50 rfl (by rw [LP.out]; kernel_rfl)) hHeld ?_
        go_frame
        refine held_take (i := 6) (v := (.slice (some ⟨b, o, none⟩) n cap)) rfl (by kernel_rfl) (by kernel_rfl) (by kernel_rfl) (fun _ _ _ h => h) (Or.inl ⟨by rfl, fun w' _ => by kernel_rfl⟩) hHeld ?_
        go_frame
        refine held_take (i := 7) (v := (.int .i64 (k : Int))) rfl (by kernel_rfl) (by kernel_rfl) (by kernel_rfl) (fun _ _ _ h => h) (Or.inl ⟨by rfl, fun w' _ => by kernel_rfl⟩) hHeld ?_
        go_frame
        refine held_take (i := 8) (v := (.pointer (some ⟨b, o + k * 68, none⟩))) rfl (by kernel_rfl) (by kernel_rfl) (by kernel_rfl) (fun _ _ _ h => h) (Or.inl ⟨by rfl, fun w' _ => by go_simp⟩) hHeld ?_
        go_frame
        refine held_take (i := 9) (v := (.pointer (some ⟨b, o + k * 68 + 33, none⟩))) rfl (by kernel_rfl) (by kernel_rfl) (by kernel_rfl) (fun _ _ _ h => h) (Or.inl ⟨by rfl, fun w' _ => by kernel_rfl⟩) hHeld ?_
        go_frame
        refine held_take (i := 10) (v := (.agg cm.toArray)) rfl (by kernel_rfl) (by kernel_rfl) (by kernel_rfl) (fun _ _ _ h => h) (Sha.yieldsIf_load_mid (by rfl) 46 (.tmp 39) rfl b (o + k * 68 + 33) rfl cm _ (fun w' hw' => range_below MX.out hw') Tryz.underlying46 rfl (by rw [LM.out]; kernel_rfl)) hHeld ?_
        go_frame
        refine wpAnyH_ready (rs := [11]) (by kernel_rfl) (by simp) (held_cons rfl (fun K hK => ?_) AllReadyH.nil)
        go_simp
        refine (AD.out _ _ _ _ ST2.out).mono ?_
        rintro e v51 ⟨rfl, m2, q2⟩
        have bb := q2.bel
        have ST3 := Lib.hid q2
        clear q2 ST2
        have hv51 := bb
        clear bb hHeld
        go_wp2_with fail
        refine hK.out _ _ hv51 (fun hHeld => ?_)
        clear hK K hv51
        refine wpAnyH_done (by kernel_rfl) ?_ _
        obtain ⟨w7, hw7⟩ : ∃ w, w = v51 := ⟨_, rfl⟩
        rw [← hw7] at hHeld ST3 ⊢
        clear hw7 hHeld
        have nm := NM.out
        go_wp2_with fail
        go_roundw
        case rel => exact ⟨k + 1, m2, v2, L2, by go_num, by omega, by rw [TK.out]; exact PY2.out, by rw [TK.out]; exact ST3.out⟩
        case measure => simp [intOf] <;> omega
      · have AZ : Hid ((numE ar == 0) = false) := by show _ = _; rw [beq_eq_false_iff_ne, ne_eq, numE_zero']; exact hz
        have SE := Lib.hid (NOA.out hz)
        clear hz
        refine wp_region_held_drew (S := (fun w' => Below w.heap.size w w')) (by kernel_rfl) (Below.drew BB.out) (fun hHeld => ?_)
        have ST := Lib.hid (ST.out.below (Below.drew (Below.refl _ _)))
        generalize hwd : wr.drew = wd at ST hHeld ⊢
        clear hwd
        refine held_take (i := 0) (v := (.pointer (some ⟨g7, 0, none⟩))) rfl (by kernel_rfl) (by kernel_rfl) (by kernel_rfl) (fun _ _ _ h => h) (Or.inl ⟨by rfl, fun w' _ => by kernel_rfl⟩) hHeld ?_
        go_frame
        refine held_take (i := 1) (v := (.slice (some ⟨b, o, none⟩) n cap)) rfl (by kernel_rfl) (by kernel_rfl) (by kernel_rfl) (fun _ _ _ h => h) (Or.inl ⟨by rfl, fun w' _ => by kernel_rfl⟩) hHeld ?_
        go_frame
        refine held_take (i := 2) (v := (.int .i64 (k : Int))) rfl (by kernel_rfl) (by kernel_rfl) (by kernel_rfl) (fun _ _ _ h => h) (Or.inl ⟨by rfl, fun w' _ => by kernel_rfl⟩) hHeld ?_
        go_frame
        refine held_take (i := 3) (v := (.pointer (some ⟨b, o + k * 68, none⟩))) rfl (by kernel_rfl) (by kernel_rfl) (by kernel_rfl) (fun _ _ _ h => h) (Or.inl ⟨by rfl, fun w' _ => by go_simp⟩) hHeld ?_
        go_frame
        refine held_take (i := 4) (v := (.pointer (some ⟨b, o + k * 68, none⟩))) rfl (by kernel_rfl) (by kernel_rfl) (by kernel_rfl) (fun _ _ _ h => h) (Or.inl ⟨by rfl, fun w' _ => by kernel_rfl⟩) hHeld ?_
        go_frame
        refine held_take (i := 5) (v := (.agg cp.toArray)) rfl (by kernel_rfl) (by kernel_rfl) (by kernel_rfl) (fun _ _ _ h => h) (Sha.yieldsIf_load_mid (by rfl) 50 (.tmp 21) rfl b (o + k * 68) rfl cp _ (fun w' hw' => range_below PX.out hw') Tryz.underlying50 rfl (by rw [LP.out]; kernel_rfl)) hHeld ?_
        go_frame
        refine held_take (i := 6) (v := (.slice (some ⟨b, o, none⟩) n cap)) rfl (by kernel_rfl) (by kernel_rfl) (by kernel_rfl) (fun _ _ _ h => h) (Or.inl ⟨by rfl, fun w' _ => by kernel_rfl⟩) hHeld ?_
        go_frame
        refine held_take (i := 7) (v := (.int .i64 (k : Int))) rfl (by kernel_rfl) (by kernel_rfl) (by kernel_rfl) (fun _ _ _ h => h) (Or.inl ⟨by rfl, fun w' _ => by kernel_rfl⟩) hHeld ?_
        go_frame
        refine held_take (i := 8) (v := (.pointer (some ⟨b, o + k * 68, none⟩))) rfl (by kernel_rfl) (by kernel_rfl) (by kernel_rfl) (fun _ _ _ h => h) (Or.inl ⟨by rfl, fun w' _ => by go_simp⟩) hHeld ?_
        go_frame
        refine held_take (i := 9) (v := (.pointer (some ⟨b, o + k * 68 + 33, none⟩))) rfl (by kernel_rfl) (by kernel_rfl) (by kernel_rfl) (fun _ _ _ h => h) (Or.inl ⟨by rfl, fun w' _ => by kernel_rfl⟩) hHeld ?_
        go_frame
        refine held_take (i := 10) (v := (.agg cm.toArray)) rfl (by kernel_rfl) (by kernel_rfl) (by kernel_rfl) (fun _ _ _ h => h) (Sha.yieldsIf_load_mid (by rfl) 46 (.tmp 26) rfl b (o + k * 68 + 33) rfl cm _ (fun w' hw' => range_below MX.out hw') Tryz.underlying46 rfl (by rw [LM.out]; kernel_rfl)) hHeld ?_
        go_frame
        refine wpAnyH_ready (rs := [11]) (by kernel_rfl) (by simp) (held_cons rfl (fun K hK => ?_) AllReadyH.nil)
        go_simp
        refine (RAD.out _ _ _ ST.out).mono ?_
        rintro e v1 ⟨rfl, v2, L2, q1, q2⟩
        have bb := q2.bel
        have PY2 := Lib.hid q1
        have ST2 := Lib.hid q2
        clear q1 q2 ST
        have hv1 := bb
        clear bb hHeld
        go_wp2_with fail
        refine hK.out _ _ hv1 (fun hHeld => ?_)
        clear hK K hv1
        refine held_take (i := 12) (v := (.bool false)) rfl (by kernel_rfl) (by kernel_rfl) (by kernel_rfl) (fun _ _ _ h => h) (Or.inl ⟨by rfl, fun w' _ => by go_simp; first | exact AZ.out | simpa using AZ.out⟩) hHeld ?_
        go_frame
        refine wpAnyH_done (by kernel_rfl) ?_ _
        obtain ⟨w6, hw6⟩ : ∃ w, w = v1 := ⟨_, rfl⟩
        rw [← hw6] at hHeld ST2 ⊢
        clear hw6 hHeld
        have nm := NM.out
        go_wp2_with fail
        go_roundw
        case rel => exact ⟨k + 1, m, v2, L2, by go_num, by omega, by rw [TK.out]; exact PY2.out, by rw [TK.out, SE.out]; exact ST2.out⟩
        case measure => simp [intOf] <;> omega
    · have hkn : k = n := by omega
      have q0 : ¬ (k : Int) < (n : Int) := by omega
      have TA : Hid (l.take k = l) := List.take_of_length_le (by have := N.out; omega)
      clear hkn
      go_wp2_with fail
      go_ret2
      show CoSetP _ _ _ _
      unfold CoSetP
      exact ⟨g6, g7, m, vv, L, rfl, by have h := PY.out; rw [TA.out] at h; exact h, by have h := ST.out; rw [TA.out] at h; exact h⟩
end Go.Proofs.YtckkcpplanfmhaaGreatDoor.Sha

/-
  The statement on a transaction's fee answers true. Nothing that was there turns. Conditions: what was told lies in memory; the errors and the table of the rounds' words are there.
-/
namespace Go.Proofs.YtckkcpplanfmhaaGreatDoor.Sha
open Go Go.RowKit
theorem cow_info_bool : (Tryz.prog.info? 4).map (fun i => (i.zero, i.size, i.bytes)) = some (some (.bool false), 1, 1) := by kernel_rfl
theorem rows_apart' {w : World} {T U : TypeId} {base base' k k' : Nat} {v v' : Value} {L L' : List (List Value)} (h : RwOwn k T base w v L) (h' : RwOwn k' U base' w v' L') (hT : T ≠ U) : v.ownBlock = none ∨ v.ownBlock ≠ v'.ownBlock := by
  rcases h'.1.2 with ⟨rfl, _⟩ | ⟨g', cap', cur', rfl, _, hr', _⟩
  · rcases h.1.2 with ⟨rfl, _⟩ | ⟨g, cap, cur, rfl, _, hr, _⟩
    · exact .inl rfl
    · exact .inr (fun e => by cases e)
  · exact .inr (own_ne' h.1 hr' hT)
theorem flt_bare {w : World} {E : Nat → Addr} {u : Value} {c : Nat} (h : FltV w E u (c, none)) : u = errV E c := by
  rcases h with ⟨_, e⟩ | ⟨q, p, g, e, _⟩
  · exact e
  · cases e
def CjI (ms : List TMn) (es : List Bool) (m base : Nat) (w5 : World) (vm ve vj : Value) (wr : World) : Prop :=
  ∃ (j : Nat) (mv ev : Value), mv = vm ∧ ev = ve ∧ vj = .int .i64 (j : Int) ∧ j ≤ m ∧ RwOwn 35 46 base wr mv ((ms.take j).map mnL) ∧ RwOwn 1 4 base wr ev ((es.take j).map boC) ∧ Below w5.heap.size w5 wr
set_option maxHeartbeats 4000000 in
set_option maxRecDepth 100000 in
theorem conntx_main (E : Nat → Addr) (l : List TSp) (v tv pv : Value) (t : TTx) (height mat : Int) (ps : List Nat) (w : World) (hE : Errs w E) (hK : KTab w) (hl : RwAt 68 w v (l.map spL)) (ho : ∀ x ∈ l, SpOk x) (h : TxAt w tv t) (hov : ∀ y ∈ t.outs, y.val ≤ 18446744073709551615) (hp : U32At w pv ps) (hpb : ∀ p ∈ ps, p ≤ 4294967295) :
    Calls Tryz.prog 3 #[v, tv, .int .i64 height, pv, .int .i64 mat] w fun e w' => e = .returned (.bool true) ∧ Below w.heap.size w w' := by
  obtain ⟨i0, hi, hz0, hz1, hz2⟩ := info_parts info_money
  obtain ⟨j0, hj0, hy0, hy1, hy2⟩ := info_parts cow_info_bool
  have HE := Lib.hid hE
  have HK := Lib.hid hK
  have h0 := h
  obtain ⟨_, iv, ov, rfl, hin, hou⟩ := h
  have LT : Hid ((txL t iv ov).toArray.size = 4) := rfl
  obtain ⟨si, ci, rfl, _, hgi⟩ := hin
  obtain ⟨so, co, rfl, _, _⟩ := hou
  obtain ⟨sq, cq, rfl, hsq⟩ := hp
  have hp : U32At w (.slice sq ps.length cq) ps := ⟨sq, cq, rfl, hsq⟩
  obtain ⟨ni, hni⟩ : ∃ n, n = t.ins.length := ⟨_, rfl⟩
  obtain ⟨no, hno⟩ : ∃ n, n = t.outs.length := ⟨_, rfl⟩
  obtain ⟨np, hnp⟩ : ∃ n, n = ps.length := ⟨_, rfl⟩
  have TXA : Hid (∀ W, Below w.heap.size w W → TxAt W (.agg (txL t (.slice si t.ins.length ci) (.slice so t.outs.length co)).toArray) t) := fun W hW => h0.below hW
  have PA : Hid (∀ W, Below w.heap.size w W → U32At W (.slice sq ps.length cq) ps) := fun W hW => hp.below hW
  rw [← hni, ← hno] at TXA LT ⊢
  rw [← hni] at hgi
  have HGI := Lib.hid hgi
  rw [← hnp] at PA ⊢
  have NI := Lib.hid hni
  have NO := Lib.hid hno
  have NP := Lib.hid hnp
  have CO : Hid (∀ (W : World) (g : Nat), W.heap[g]? = some (.cells (txL t (.slice si ni ci) (.slice so no co)).toArray 27 (0, 0)) → W.cell? ⟨g, 1, none⟩ = some (.slice si ni ci) ∧ W.cell? ⟨g, 2, none⟩ = some (.slice so no co)) := fun W g hg => ⟨(tx_cells hg).2.1, (tx_cells hg).2.2.1⟩
  obtain ⟨ct, hct⟩ : ∃ ct, ct = txL t (.slice si ni ci) (.slice so no co) := ⟨_, rfl⟩
  rw [← hct] at TXA LT CO ⊢
  have HL := Lib.hid hl
  have OKL := Lib.hid ho
  have OV := Lib.hid hov
  have PB := Lib.hid hpb
  clear hni hno hnp hct hl ho h0 hgi hsq hp hov hpb hE hK
  go_enter Tryz.func3, Tryz.ntmps3
  go_upto_region 1 with fail
  have f6 := heap_alloc_new w (.cells ct.toArray 27 (0, 0))
  have b1 := (Below.refl w.heap.size w).alloc (Nat.le_refl _) (.cells ct.toArray 27 (0, 0))
  generalize hw1 : World.alloc _ _ = w1
  have e1 : w.alloc (.cells ct.toArray 27 (0, 0)) = w1 := hw1
  rw [e1] at f6 b1
  obtain ⟨gt, hgt⟩ : ∃ g, g = w.heap.size := ⟨_, rfl⟩
  rw [← hgt] at f6 ⊢
  have F6 := Lib.hid f6
  have B1 := Lib.hid b1
  clear f6 b1 hw1 e1 hgt
  go_wp2_with fail
  refine (cofirst_any E w1 (HE.out.below B1.out)).mono ?_
  rintro e w2 ⟨rfl, bb⟩
  have F6 := Lib.hid (row_below F6.out bb)
  have B2 := Lib.hid (B1.out.trans (bb.mono B1.out.size))
  clear bb
  go_wp2_with fail
  refine (coplain_any w2 v l height mat (HL.out.below B2.out) OKL.out).mono ?_
  rintro e w3 ⟨b, rfl, rfl, hb⟩
  obtain ⟨c1, c2⟩ := CO.out _ _ F6.out
  cases b with
  | false =>
    clear hb
    go_wp2_with fail
    go_ret
    exact ⟨rfl, B2.out⟩
  | true =>
    have PL := Lib.hid (hb rfl)
    clear hb
    by_cases a1 : (20 : Int) < (ni : Int)
    · go_wp2_with fail
      go_ret
      exact ⟨rfl, B2.out⟩
    by_cases a2 : (20 : Int) < (no : Int)
    · go_wp2_with fail
      go_ret
      exact ⟨rfl, B2.out⟩
    by_cases a3 : (1000 : Int) < (np : Int)
    · go_wp2_with fail
      go_ret
      exact ⟨rfl, B2.out⟩
    have BD : Hid (ni ≤ 20 ∧ no ≤ 20 ∧ np ≤ 1000) := ⟨by omega, by omega, by omega⟩
    go_wp2_with fail
    clear a1 a2 a3 c1 c2
    refine (coset_any E w2 v l (HL.out.below B2.out) OKL.out (by have := PL.out.2.2.2.2.1; omega) (EC.of (HE.out.below B2.out))).mono ?_
    rintro e w4 ⟨g6, g7, m, vx, L, rfl, hpy, hst⟩
    have PY := Lib.hid hpy
    have ST := Lib.hid hst
    have B4 := Lib.hid (B2.out.trans (hst.bel.mono B2.out.size))
    have F6 := Lib.hid (row_below F6.out hst.bel)
    clear hpy hst
    obtain ⟨s, hs⟩ : ∃ s, s = coinsL l := ⟨_, rfl⟩
    rw [← hs] at PY ST
    have SH : Hid (∀ x ∈ s, 0 ≤ x.coin.height ∧ x.coin.height ≤ 1000000) := fun x hx => by
      rw [hs] at hx
      have := PL.out.2.2.2.2.2 x (coinsL_in hx)
      omega
    have SLN : Hid (s.length ≤ 1000000) := by show _ ≤ _; rw [hs]; have h1 := coinsL_len l; have := PL.out.2.2.2.2.1; omega
    clear hs
    obtain ⟨ms, hms⟩ : ∃ x, x = msG (getC s) t := ⟨_, rfl⟩
    obtain ⟨es, hes⟩ : ∃ x, x = isG (getC s) t := ⟨_, rfl⟩
    have MG : Hid (∀ j xi, t.ins[j]? = some xi → ms[j]? = some ((getC s (ptOf xi)).getD mnZ) ∧ es[j]? = some ((getC s (ptOf xi)).isSome)) := fun j xi h => by rw [hms, hes]; exact msG_get h
    have ML : Hid (ms.length = ni ∧ es.length = ni) := by show _ ∧ _; rw [hms, hes, NI.out]; exact msG_len (getC s) t
    have GE := set_get ST.out.l SH.out
    have MO : Hid (∀ m ∈ ms, MnOk m ∧ 0 ≤ m.height ∧ m.height ≤ 1000000) := fun m hmm => by
      rw [hms] at hmm
      obtain ⟨x, _, rfl⟩ := List.mem_map.1 hmm
      exact GE.okD (ptOf x)
    have CT := cotx_any E w4 (.agg ct.toArray) (.slice sq np cq) t _ _ _ _ height mat ps (TXA.out w4 B4.out) GE (PA.out w4 B4.out) (by rw [← NI.out]; have := BD.out; omega) (by rw [← NO.out]; have := BD.out; omega) (by rw [← NP.out]; have := BD.out; omega) PB.out (by have := PL.out; unfold CoPl at this; omega) (HE.out.below B4.out).co (fun W hW => HK.out.below (B4.out.trans (hW.mono B4.out.size)))
    rw [← hms, ← hes] at CT
    have CT := Lib.hid CT
    have RLE : Hid ((coR t ms es height ps mat).2.1 ≤ 25) := coR_le _ _ _ _ _ _
    have RE : Hid (coR t ms es height ps mat = if (1 ≤ height ∧ (np : Int) = height) then coV t ms es height ps mat else (0, 2, none)) := by rw [NP.out]; rfl
    obtain ⟨R, hR⟩ : ∃ R, R = coR t ms es height ps mat := ⟨_, rfl⟩
    rw [← hR] at CT RLE RE
    clear hms hes hR GE
    go_wp2_with ((with_reducible show wpList _ _ _ _ _ _); (refine wpList_load_row rfl 27 (.tmp 6) rfl gt rfl 27 ct.toArray (0, 0) _ F6.out Tryz.underlying27 rfl (by rw [LT.out]; kernel_rfl) ?_; go_frame))
    refine CT.out.mono ?_
    rintro e w5 ⟨u, rfl, hfl, bb⟩
    have FL := Lib.hid hfl
    have ST := Lib.hid (ST.out.below bb)
    have B5 := Lib.hid (B4.out.trans (bb.mono B4.out.size))
    have F6 := Lib.hid (row_below F6.out bb)
    clear hfl bb CT
    by_cases hne : (np : Int) = height
    · have q0 : ((np : Int) != height) = false := by simp; omega
      have RV : Hid (R = coV t ms es height ps mat) := by show _ = _; rw [RE.out, if_pos ⟨PL.out.1, hne⟩]
      have NPH := Lib.hid hne
      clear hne RE
      obtain ⟨base, hbase⟩ : ∃ b, b = w5.heap.size := ⟨_, rfl⟩
      have BS := Lib.hid hbase
      clear hbase
      go_wp2_with fail
      clear q0
      go_loopw [16, 17, 18] (fun vm ve vj wz => CjI ms es ni base w5 vm ve vj wz) (fun _ _ vj _ => ni - (intOf vj).toNat)
      case atStart => exact ⟨0, _, _, rfl, rfl, rfl, Nat.zero_le _, RwOwn.nil _ _ _ _, RwOwn.nil _ _ _ _, Below.refl _ _⟩
      case round =>
        obtain ⟨j, mv, ev, rfl, rfl, rfl, hjm, hm1, he1, hbj⟩ := hrel
        have MV := Lib.hid hm1
        have EV := Lib.hid he1
        have BJ := Lib.hid hbj
        have F6R := Lib.hid (row_below F6.out hbj)
        clear hm1 he1 hbj
        obtain ⟨c1, _⟩ := CO.out _ _ F6R.out
        by_cases hlj : j < ni
        · obtain ⟨xi, hxi⟩ : ∃ xi, t.ins[j]? = some xi := ⟨_, List.getElem?_eq_getElem (by rw [← NI.out]; exact hlj)⟩
          obtain ⟨bi2, oi2, rfl, hgx⟩ := HGI.out (by omega)
          obtain ⟨io, kv, _, hrx⟩ := hgx j xi hxi
          have BWZ := Lib.hid (B5.out.trans (BJ.out.mono B5.out.size))
          have PTR : Hid (wr.rangeAt bi2 (oi2 + j * 35) (ptC (ptOf xi))) := range_below (in_pt hrx) BWZ.out
          have POK : Hid (PtOk (ptOf xi)) := ⟨io.1, io.2.1⟩
          have PLN : Hid ((ptC (ptOf xi)).length = 33) := ptC_length POK.out
          have MJ := Lib.hid (MG.out j xi hxi)
          have GET : Hid (∀ W, Below w5.heap.size w5 W → Calls Tryz.prog 12 #[.pointer (some ⟨g7, 0, none⟩), .agg (ptC (ptOf xi)).toArray] W fun e w' => e = .returned (.tuple #[.agg (mnL ((getC s (ptOf xi)).getD mnZ)).toArray, .bool (getC s (ptOf xi)).isSome]) ∧ Below W.heap.size W w') := fun W hW => co_rget (ST.out.below hW) PY.out (by have := SLN.out; omega) (ptOf xi) POK.out
          have MOK : MnOk ((getC s (ptOf xi)).getD mnZ) := (MO.out _ (List.mem_of_getElem? MJ.out.1)).1
          have LMl : Hid ((mnL ((getC s (ptOf xi)).getD mnZ)).length = 35) := mnL_length MOK
          have LMZ : Hid ((mnL ((getC s (ptOf xi)).getD mnZ)).toArray.size = 35) := mnL_size MOK
          have LMA : Hid ((mnL ((getC s (ptOf xi)).getD mnZ)).toArray.all (·.oneCell') = true) := mnL_all _
          have LMO : Hid (∀ u ∈ mnL ((getC s (ptOf xi)).getD mnZ), u.oneCell' = true) := mnL_one _
          obtain ⟨mc, hmc⟩ : ∃ mc, mc = (getC s (ptOf xi)).getD mnZ := ⟨_, rfl⟩
          obtain ⟨eb, heb⟩ : ∃ eb, eb = (getC s (ptOf xi)).isSome := ⟨_, rfl⟩
          rw [← hmc] at GET LMl LMZ LMA LMO MJ
          rw [← heb] at GET MJ
          obtain ⟨cm, hcm⟩ : ∃ cm, cm = mnL mc := ⟨_, rfl⟩
          have CM := Lib.hid hcm
          rw [← hcm] at GET LMl LMZ LMA LMO
          obtain ⟨cp, hcp⟩ : ∃ cp, cp = ptC (ptOf xi) := ⟨_, rfl⟩
          rw [← hcp] at GET PTR PLN
          have DM : Hid (((ms.take j).map mnL).length ≤ 1000) := by show _ ≤ _; rw [List.length_map, List.length_take]; have := BD.out; omega
          have DE : Hid (((es.take j).map boC).length ≤ 1000) := by show _ ≤ _; rw [List.length_map, List.length_take]; have := BD.out; omega
          have r0 : 0 ≤ (j : Int) := by omega
          have r1 : (j : Int) < (ni : Int) := by omega
          have zs : Hid ((mnL mnZ).toArray.size = cm.toArray.size) := by show _ = _; rw [LMZ.out]; rfl
          clear hxi hgx hrx io MOK hmc heb hcm hcp
          go_wp2_with ((with_reducible show wpList _ _ _ _ _ _); (refine wpList_load_mid rfl 50 (.tmp 90) rfl bi2 (oi2 + j * 35) rfl cp _ PTR.out Tryz.underlying50 rfl (by rw [PLN.out]; kernel_rfl) ?_; go_frame))
          refine (GET.out _ BJ.out).mono ?_
          rintro e w12 ⟨rfl, bb⟩
          have MV := Lib.hid (MV.out.keep bb)
          have EV := Lib.hid (EV.out.keep bb)
          have BJ := Lib.hid (BJ.out.trans (bb.mono BJ.out.size))
          clear bb PTR BWZ GET c1
          go_upto_region 16 with ((with_reducible show wpList _ _ _ _ _ _); (refine wpList_store_row rfl 46 (.tmp 19) (.tmp 93) rfl w12.heap.size cm.toArray rfl rfl 46 _ (heap_alloc_new _ _) (by rw [LMZ.out]; kernel_rfl) (by rw [LMZ.out]; rfl) LMA.out ?_; go_frame))
          obtain ⟨_, f2, f3, f4⟩ := fill_setup (Below.refl w12.heap.size w12) (mnL mnZ).toArray cm.toArray 46
          generalize hqw13 : World.setRow _ _ _ = w13
          have ew13 : World.setRow (w12.alloc (.cells (mnL mnZ).toArray 46)) w12.heap.size cm.toArray = w13 := hqw13
          rw [ew13] at f2 f3 f4
          obtain ⟨g19, hg19⟩ : ∃ g19, g19 = w12.heap.size := ⟨_, rfl⟩
          rw [← hg19] at f2 ⊢
          have F19 := Lib.hid f2
          have Ng19 : Hid (w12.heap.size ≤ g19) := by show _ ≤ _; rw [hg19]; exact Nat.le_refl _
          have MV := Lib.hid (MV.out.keep f4)
          have EV := Lib.hid (EV.out.keep f4)
          have BJ := Lib.hid (BJ.out.trans (f4.mono BJ.out.size))
          clear f2 f3 f4 hqw13 ew13 hg19
          go_upto_region 17 with (first | ((with_reducible show wpList _ _ _ _ _ _); first | (refine wpList_load_row rfl 46 (.tmp 19) rfl g19 rfl 46 cm.toArray (0, 0) _ F19.out Tryz.underlying46 rfl (by rw [LMZ.out]; kernel_rfl) ?_; go_frame) | (refine wpList_slice_one rfl 41 46 (.tmp 96) rfl cm rfl Tryz.underlying41 i0 _ hi hz0 (by rw [hz1, LMl.out]) (by rw [LMl.out]; omega) (by rw [LMl.out]; omega) ?_; have nf := heap_alloc_new w13 (.cells (cm).toArray 46 (0, 0)); have bb := (Below.refl w13.heap.size w13).alloc (Nat.le_refl _) (.cells (cm).toArray 46 (0, 0)); obtain ⟨g24, hg24⟩ : ∃ g, g = w13.heap.size := ⟨_, rfl⟩; generalize hq : World.alloc _ _ = w14; have e2 : w13.alloc (.cells (cm).toArray 46 (0, 0)) = w14 := hq; rw [e2] at nf bb; rw [← hg24] at nf ⊢; have F24 := Lib.hid nf; have MV := Lib.hid (MV.out.keep bb); have EV := Lib.hid (EV.out.keep bb); have BJ := Lib.hid (BJ.out.trans (bb.mono BJ.out.size)); clear nf bb hq e2 hg24; go_frame)) | (at_builtin; refine wpList_append_own_at _ rfl _ _ 41 rfl (base) 46 i0 (.agg (mnL mnZ).toArray) 35 56 Tryz.underlying41 hi hz0 hz1 hz2 (by kernel_rfl) (by decide) mv _ (((ms.take j).map mnL)).flatten rfl MV.out.1 ⟨g24, 0, none⟩ 1 1 (cm) rfl (by rw [LMl.out]) (fun j u hj => by rw [Addr.add_mid]; exact range_of_box F24.out j u hj) LMO.out (by have := DM.out; unfold maxLen; omega) (by have := DM.out; omega) ((by rw [BS.out]; exact BJ.out.size)) ?_; intro mv2 w15 q1 q2 _ q4; have MV2 : Hid (RwOwn 35 46 (base) w15 mv2 ((((ms.take j).map mnL)) ++ [cm])) := RwOwn.push MV.out.2 LMl.out q1; have EV := Lib.hid (EV.out.kept q2 (rows_apart' EV.out MV.out (by decide))); have BJ := Lib.hid ((own_grown BJ.out (by rw [BS.out]; exact Nat.le_refl _) BJ.out.size MV.out.1 q2)); clear q1 q2 q4; go_frame))
          go_wp2_with (at_builtin; refine wpList_append_own_at _ rfl _ _ 42 rfl base 4 j0 (.bool false) 1 1 Tryz.underlying42 hj0 hy0 hy1 hy2 rfl (by decide) ev _ ((es.take j).map boC).flatten rfl (EV.out.1.alloc _) ⟨w15.heap.size, 0, none⟩ 1 1 [.bool eb] rfl rfl (cell_one_new _ _ _) (fun u hu => by obtain rfl := List.mem_singleton.1 hu; rfl) (by have := DE.out; unfold maxLen; omega) (by have := DE.out; omega) (by have := BS.out; have := BJ.out.size; simp; omega) ?_; intro ev2 w16 q1 q2 _ q4; have EV2 : Hid (RwOwn 1 4 base w16 ev2 (((es.take j).map boC) ++ [boC eb])) := RwOwn.push EV.out.2 rfl q1; have al := (Below.refl w15.heap.size w15).alloc (Nat.le_refl _) (.cells #[.bool eb] 4 (0, 0)); have MV3 := Lib.hid ((MV2.out.keep al).kept q2 (rows_apart' MV2.out EV.out (by decide))); have BJ2 := Lib.hid (own_grown (BJ.out.alloc BJ.out.size _) (by rw [BS.out]; exact Nat.le_refl _) (by have := BJ.out.size; simp; omega) (EV.out.1.alloc _) q2); clear q1 q2 q4 al; go_frame)
          go_roundw
          case rel =>
            refine ⟨j + 1, mv2, ev2, rfl, rfl, by go_num, by omega, ?_, ?_, BJ2.out⟩
            · rw [List.take_succ_eq_append_getElem (List.getElem?_eq_some_iff.1 MJ.out.1).1, (List.getElem?_eq_some_iff.1 MJ.out.1).2, List.map_append]
              rw [CM.out] at MV3
              exact MV3.out
            · rw [List.take_succ_eq_append_getElem (List.getElem?_eq_some_iff.1 MJ.out.2).1, (List.getElem?_eq_some_iff.1 MJ.out.2).2, List.map_append]
              exact EV2.out
          case measure => simp [intOf] <;> omega
        · have hjm2 : j = ni := by omega
          have i2 : ¬ (j : Int) < (ni : Int) := by omega
          have BWZ := Lib.hid (B5.out.trans (BJ.out.mono B5.out.size))
          have MVA : Hid (RwAt 35 wr mv (ms.map mnL)) := by
            have h := MV.out
            rw [hjm2, List.take_of_length_le (by rw [ML.out.1]; exact Nat.le_refl _)] at h
            exact h.at (by omega)
          have EVA : Hid (RwAt 1 wr ev (es.map boC)) := by
            have h := EV.out
            rw [hjm2, List.take_of_length_le (by rw [ML.out.2]; exact Nat.le_refl _)] at h
            exact h.at (by omega)
          have TXC := rtx_all wr (.agg ct.toArray) mv ev (.slice sq np cq) t ms es ps height mat (TXA.out wr BWZ.out) MVA.out EVA.out (PA.out wr BWZ.out) (by rw [ML.out.1, NI.out]) (by rw [ML.out.2, NI.out]) (fun m hm => (MO.out m hm).1) (fun m hm => by have := (MO.out m hm).2; omega) OV.out (by rw [← NI.out]; have := BD.out; omega) (by rw [← NO.out]; have := BD.out; omega) (by rw [← NP.out]; have := PL.out.1; have := NPH.out; omega) (by rw [← NP.out]; have := BD.out; omega) PB.out (by have := PL.out; unfold CoPl at this; omega)
          rw [txV_co, ← RV.out] at TXC
          have TXC := Lib.hid TXC
          have FLW := Lib.hid (FL.out.below BJ.out)
          have FLZ : Hid ((fltL R.2).toArray.size = 5) := fltL_len _
          have FLA : Hid ((fltL R.2).toArray.all (·.oneCell') = true) := fltL_all _
          have SF : Hid (∀ W, Below wr.heap.size wr W → Calls Tryz.prog 14 #[u, .agg (fltL R.2).toArray] W fun e w' => e = .returned (.bool true) ∧ Below W.heap.size W w') := fun W hW => same_flt E R.2 u W (HE.out.below (BWZ.out.trans (hW.mono BWZ.out.size))) RLE.out (FLW.out.below hW)
          obtain ⟨fl, hfl⟩ : ∃ f, f = fltL R.2 := ⟨_, rfl⟩
          rw [← hfl] at TXC FLZ FLA SF
          obtain ⟨fe, hfe⟩ : ∃ f, f = R.1 := ⟨_, rfl⟩
          rw [← hfe] at TXC ⊢
          have zs : Hid ((fC 0).toArray.size = fl.toArray.size) := by show _ = _; rw [FLZ.out]; rfl
          clear hjm2 MV EV hfl hfe FLW
          go_wp2_with ((with_reducible show wpList _ _ _ _ _ _); (refine wpList_load_row rfl 27 (.tmp 6) rfl gt rfl 27 ct.toArray (0, 0) _ F6R.out Tryz.underlying27 rfl (by rw [LT.out]; kernel_rfl) ?_; go_frame))
          refine TXC.out.mono ?_
          rintro e w20 ⟨rfl, bb⟩
          have BY := Lib.hid (BWZ.out.trans (bb.mono BWZ.out.size))
          have SF := Lib.hid (fun W hW => SF.out W (bb.trans (Below.mono hW bb.size)))
          clear bb TXC c1
          go_upto_region 19 with ((with_reducible show wpList _ _ _ _ _ _); (refine wpList_store_row rfl 55 (.tmp 22) (.tmp 112) rfl w20.heap.size fl.toArray rfl rfl 55 _ (heap_alloc_new _ _) (by rw [FLZ.out]; kernel_rfl) (by rw [FLZ.out]; rfl) FLA.out ?_; go_frame))
          obtain ⟨_, f2, f3, f4⟩ := fill_setup (Below.refl w20.heap.size w20) (fC 0).toArray fl.toArray 55
          generalize hqw21 : World.setRow _ _ _ = w21
          have ew21 : World.setRow (w20.alloc (.cells (fC 0).toArray 55)) w20.heap.size fl.toArray = w21 := hqw21
          rw [ew21] at f2 f3 f4
          obtain ⟨g22, hg22⟩ : ∃ g22, g22 = w20.heap.size := ⟨_, rfl⟩
          rw [← hg22] at f2 ⊢
          have F22 := Lib.hid f2
          have Ng22 : Hid (w20.heap.size ≤ g22) := by show _ ≤ _; rw [hg22]; exact Nat.le_refl _
          have BY := Lib.hid (BY.out.trans (f4.mono BY.out.size))
          have SFW := Lib.hid (SF.out _ f4)
          clear f2 f3 f4 hqw21 ew21 hg22
          have qq : ((fe : Int) == (fe : Int)) = true := by simp
          go_wp2_with ((with_reducible show wpList _ _ _ _ _ _); first | (refine wpList_load_row rfl 55 (.tmp 22) rfl g22 rfl 55 fl.toArray (0, 0) _ F22.out Tryz.underlying55 rfl (by rw [FLZ.out]; kernel_rfl) ?_; go_frame) | (refine wpList_load_rowG 55 (.tmp 22) rfl g22 rfl 55 fl.toArray (0, 0) _ F22.out Tryz.underlying55 rfl (by rw [FLZ.out]; kernel_rfl) (by first | rfl | kernel_rfl) ?_; go_frame))
          refine SFW.out.mono ?_
          rintro e w22 ⟨rfl, bb⟩
          have BY := Lib.hid (BY.out.trans (bb.mono BY.out.size))
          clear bb
          go_wp2_with fail
          go_ret
          exact ⟨rfl, BY.out⟩
    · have q0 : ((np : Int) != height) = true := by simp; omega
      have RV : Hid (R = (0, 2, none)) := by show _ = _; rw [RE.out, if_neg (fun h => hne h.2)]
      have hu : u = errV E 2 := flt_bare (w := w5) (by have h := FL.out; rw [RV.out] at h; exact h)
      have RZ : R.1 = 0 := by rw [RV.out]
      rw [RZ, hu]
      clear hu hne RE RZ FL
      go_wp2_with fail
      refine (is_any E 2 102 true rfl w5 (HE.out.below B5.out) (by omega)).mono ?_
      rintro e w6 ⟨rfl, bb⟩
      have BY := Lib.hid (B5.out.trans (bb.mono B5.out.size))
      clear bb
      go_wp2_with fail
      go_ret
      exact ⟨rfl, BY.out⟩
end Go.Proofs.YtckkcpplanfmhaaGreatDoor.Sha
