/-
  Texts of this proof joined into one file: RefPut, RefUnder, TwTwo. What each holds, and under which conditions, its own first sentence tells.
-/
import Derived.Test.YtbgagaaoldjhnaaGreatDoorMg18
import Derived.Test.YtbgagaaoldjhnaaGreatDoorMg11
import Derived.Test.YtbgagaaoldjhnaaGreatDoorMg01
import Derived.Test.YtbgagaaoldjhnaaGreatDoorMg09
import Derived.Test.YtbgagaaoldjhnaaGreatDoorMg06
import Derived.Test.YtbgagaaoldjhnaaGreatDoorMg05
import Derived.Test.YtbgagaaoldjhnaaGreatDoorMg12
import Derived.Test.YtbgagaaoldjhnaaGreatDoorMg14
import Derived.Test.YtbgagaaoldjhnaaGreatDoorMg10
import Derived.Test.YtbgagaaoldjhnaaGreatDoorMg03
/-
  The reference's PutHash: into digests that rise, each once; a new row. Conditions: the row is in its place.
-/
namespace Go.Proofs.YtbgagaaoldjhnaaGreatDoor.Sha
open Go Go.RowKit
def putH : List (List UInt8) → List UInt8 → List (List UInt8)
  | [], x => [x]
  | y :: l, x => if lessL y x = true then y :: putH l x else if y = x then y :: l else x :: y :: l
theorem putH_at : ∀ (l : List (List UInt8)) (x : List UInt8) (k : Nat), k ≤ l.length → (∀ j y, j < k → l[j]? = some y → lessL y x = true) → putH l x = l.take k ++ putH (l.drop k) x
  | l, x, 0, _, _ => by simp
  | [], x, k + 1, h, _ => by simp at h
  | y :: l, x, k + 1, h, hj => by
    have h0 := hj 0 y (Nat.succ_pos _) rfl
    rw [putH, if_pos h0, List.take_succ_cons, List.drop_succ_cons, List.cons_append, putH_at l x k (by simpa using h) fun j z hz hg => hj (j + 1) z (by omega) (by simpa using hg)]
def HR (l : List (List UInt8)) : List (List Value) := l.map fun x => x.map bV
theorem HR_flat (l : List (List UInt8)) : (HR l).flatten = hsL l := by unfold HR hsL; rw [List.flatMap_def]
theorem HR_all {l : List (List UInt8)} (h : HsOk l) : AllK 32 (HR l) := fun x hx => by
  obtain ⟨y, hy, rfl⟩ := List.mem_map.1 hx
  rw [List.length_map]
  exact h y hy
theorem hs_rw_own {base : Nat} {w : World} {v : Value} {l : List (List UInt8)} (h : HsOwn base w v l) : RwOwn 32 25 base w v (HR l) := by
  refine ⟨?_, HR_all h.2⟩
  rw [HR_flat]
  have := h.1
  unfold HR
  rw [List.length_map]
  exact this
theorem rw_hs_own {base : Nat} {w : World} {v : Value} {l : List (List UInt8)} (h : RwOwn 32 25 base w v (HR l)) (ho : HsOk l) : HsOwn base w v l := by
  have := h.1
  rw [HR_flat] at this
  unfold HR at this
  rw [List.length_map] at this
  exact ⟨this, ho⟩
theorem hs_rw_at {w : World} {v : Value} {l : List (List UInt8)} (h : HsAt w v l) : RwAt 32 w v (HR l) := by
  obtain ⟨ho, sp, cap, hv, hc, hr⟩ := h
  refine ⟨HR_all ho, sp, cap, by unfold HR; rw [List.length_map]; exact hv, by unfold HR; rw [List.length_map]; exact hc, fun h0 => ?_⟩
  unfold HR at h0
  rw [List.length_map] at h0
  obtain ⟨b, o, hs, hg⟩ := hr h0
  refine ⟨b, o, hs, fun i x hx => ?_⟩
  unfold HR at hx
  rw [List.getElem?_map] at hx
  cases hl : l[i]? with
  | none => rw [hl] at hx; cases hx
  | some y =>
    rw [hl] at hx
    rw [← Option.some.inj hx]
    exact hg i y hl
theorem HR_one (l : List (List UInt8)) : ∀ m ∈ HR l, ∀ u ∈ m, u.oneCell' = true := fun m hm => by
  obtain ⟨y, _, rfl⟩ := List.mem_map.1 hm
  exact bV_one' _
theorem HsOwn.lower {base base' : Nat} {w : World} {v : Value} {l : List (List UInt8)} (h : HsOwn base w v l) (hb : base' ≤ base) : HsOwn base' w v l := ⟨own_base h.1 hb, h.2⟩
theorem hs_head {w : World} {sp : Option Addr} {n cap : Nat} {l : List (List UInt8)} (h : HsAt w (.slice sp n cap) l) (r : Nat) (h2 : r ≤ n) : HsAt w (sliced sp 0 r cap 32) (l.take r) := by
  have := h.cut 0 r (Nat.zero_le _) h2
  rwa [List.drop_zero] at this
theorem hs_tail {w : World} {sp : Option Addr} {n cap : Nat} {l : List (List UInt8)} (h : HsAt w (.slice sp n cap) l) (i : Nat) (h2 : i ≤ n) : HsAt w (sliced sp i n cap 32) (l.drop i) := by
  have := h.cut i n h2 (Nat.le_refl _)
  rwa [List.take_of_length_le (by rw [h.len.1]; exact Nat.le_refl _)] at this
def PhInv (l : List (List UInt8)) (x : List UInt8) (n : Nat) (w1 : World) (vk : Value) (wr : World) : Prop :=
  ∃ k : Nat, vk = .int .i64 (k : Int) ∧ k ≤ n ∧ (∀ j y, j < k → l[j]? = some y → lessL y x = true) ∧ Below w1.heap.size w1 wr
set_option maxHeartbeats 8000000 in
set_option maxRecDepth 100000 in
theorem puthash_any (l : List (List UInt8)) (x : List UInt8) (sp : Option Addr) (n cap : Nat) (w : World) (hl : HsAt w (.slice sp n cap) l) (hx : x.length = 32) (hn : n ≤ 65536) :
    Calls Tryz.prog 43 #[.slice sp n cap, .agg (x.map bV).toArray] w fun e w' => ∃ v, e = .returned v ∧ HsOwn w.heap.size w' v (putH l x) ∧ Below w.heap.size w w' := by
  obtain ⟨i0, hi, hz0, hz1, hz2⟩ := info_parts info_hash
  have HL := Lib.hid hl
  have NLE : Hid (n = l.length ∧ n ≤ cap) := hl.len
  have NC : Hid (n ≤ cap) := NLE.out.2
  have NM := Lib.hid hn
  have LX := Lib.hid hx
  have SX : Hid ((x.map bV).toArray.size = 32) := by show _ = _; rw [List.size_toArray, List.length_map]; exact hx
  have LXB : Hid ((x.map bV).length = 32) := by show _ = _; rw [List.length_map]; exact hx
  have nle := NM.out
  clear hl hx hn
  go_enter Tryz.func43, Tryz.ntmps43
  go_upto_region 1 with fail
  have f0 := heap_alloc_new w (.cells (x.map bV).toArray 25 (0, 0))
  have bb : Below w.heap.size w (w.alloc (.cells (x.map bV).toArray 25 (0, 0))) := ((Below.refl w.heap.size w).alloc (by first | exact Nat.le_refl _ | (simp only [World.size_alloc]; omega)) (.cells (x.map bV).toArray 25 (0, 0)))
  generalize hq : World.alloc _ _ = w1
  have eq : w.alloc (.cells (x.map bV).toArray 25 (0, 0)) = w1 := hq
  rw [eq] at f0 bb
  obtain ⟨g3, hg3⟩ : ∃ g3, g3 = w.heap.size := ⟨_, rfl⟩
  have Gg3 : Hid (w.heap.size ≤ g3) := by show _ ≤ _; omega
  rw [← hg3] at f0 ⊢
  have F3 := Lib.hid f0
  have B1 := Lib.hid bb
  clear f0 bb hq eq hg3
  go_wp2_with fail
  go_loopw [5] (fun vk wr => PhInv l x n w1 vk wr) (fun vk _ => n - (intOf vk).toNat)
  case atStart => exact ⟨0, rfl, Nat.zero_le _, fun j y h => absurd h (Nat.not_lt_zero _), Below.refl _ _⟩
  case round =>
    obtain ⟨k, rfl, hkn, hj, hb⟩ := hrel
    have HJ := Lib.hid hj
    have B := Lib.hid (B1.out.trans (hb.mono B1.out.size))
    have F3 := Lib.hid (row_below F3.out hb)
    have BL := Lib.hid hb
    clear hj hb B1
    have KN := Lib.hid hkn
    have LEN : Hid (((HR (l.take k ++ [x])).length + (HR (l.drop k)).length) * 32 ≤ 140737488355328 ∧ (HR (l.take k ++ [x])).length + (HR (l.drop k)).length ≤ maxLen) := by
      have := NLE.out
      have e : (HR (l.take k ++ [x])).length + (HR (l.drop k)).length = n + 1 := by unfold HR; simp; omega
      show _ ∧ _
      rw [e]
      unfold maxLen
      omega
    have OKN : Hid (HsOk (l.take k ++ [x] ++ l.drop k)) := fun y hy => by
      rcases List.mem_append.1 hy with h | h
      · rcases List.mem_append.1 h with h | h
        · exact HL.out.1 y (List.mem_of_mem_take h)
        · rw [List.mem_singleton.1 h]; exact LX.out
      · exact HL.out.1 y (List.mem_of_mem_drop h)
    have DLK : Hid ((l.take k).length ≤ 1048576) := by show _ ≤ _; rw [List.length_take]; omega
    by_cases hlt : k < n
    · obtain ⟨b, o, rfl, hbw, hg⟩ := HL.out.get (show 0 < n by omega)
      obtain ⟨y, hy⟩ : ∃ y, l[k]? = some y := ⟨_, List.getElem?_eq_getElem (by have := NLE.out.1; omega)⟩
      have hgk := hg k hlt
      rw [List.getD_eq_getElem?_getD, hy, Option.getD_some] at hgk
      have RY := Lib.hid (range_below hgk B.out)
      have hy32 : y.length = 32 := HL.out.1 y (List.mem_of_getElem? hy)
      have LY : Hid ((y.map bV).length = 32) := by show _ = _; rw [List.length_map]; exact hy32
      obtain ⟨c, hc⟩ : ∃ c, c = lessL y x := ⟨_, rfl⟩
      have HLS : Hid (∀ W, Calls Tryz.prog 63 #[.agg (y.map bV).toArray, .agg (x.map bV).toArray] W fun e w' => e = .returned (.bool c) ∧ Below W.heap.size W w') := fun W => by rw [hc]; exact ref_less y x hy32 LX.out W
      obtain ⟨s, hs⟩ : ∃ s, s = decide (y = x) := ⟨_, rfl⟩
      have HSM : Hid (∀ W, Calls Tryz.prog 20 #[.agg (y.map bV).toArray, .agg (x.map bV).toArray] W fun e w' => e = .returned (.bool s) ∧ Below W.heap.size W w') := fun W => by rw [hs]; exact same_any y x hy32 LX.out W
      have YK := Lib.hid hy
      have CE := Lib.hid hc
      have SE := Lib.hid hs
      have DE : Hid (l.drop k = y :: l.drop (k + 1)) := by
        show _ = _
        rw [List.drop_eq_getElem_cons (List.getElem?_eq_some_iff.1 hy).1, (List.getElem?_eq_some_iff.1 hy).2]
      have PE : Hid (putH l x = l.take k ++ putH (l.drop k) x) := putH_at l x k (by have := NLE.out; omega) HJ.out
      clear hg hgk hbw hy hc hs hy32
      go_upto_region 2 with fail
      refine wp_region_held_drew (S := (fun w' => Below wr.heap.size wr w')) (by kernel_rfl) (Below.drew (Below.refl _ _)) (fun hHeld => ?_)
      generalize hwd : wr.drew = wd at  hHeld ⊢
      clear hwd
      refine held_take (i := 0) (v := (.int .i64 (k : Int))) rfl (by kernel_rfl) (by kernel_rfl) (by kernel_rfl) (fun _ _ _ h => h) (Or.inl ⟨by rfl, fun w' _ => by kernel_rfl⟩) hHeld ?_
      go_frame
      refine held_take (i := 1) (v := (.slice (some ⟨b, o, none⟩) n cap)) rfl (by kernel_rfl) (by kernel_rfl) (by kernel_rfl) (fun _ _ _ h => h) (Or.inl ⟨by rfl, fun w' _ => by kernel_rfl⟩) hHeld ?_
      go_frame
      refine held_take (i := 2) (v := (.int .i64 (n : Int))) rfl (by kernel_rfl) (by kernel_rfl) (by kernel_rfl) (fun _ _ _ h => h) (Or.inl ⟨by rfl, fun w' _ => by go_simp⟩) hHeld ?_
      go_frame
      refine held_take (i := 3) (v := (.bool true)) rfl (by kernel_rfl) (by kernel_rfl) (by kernel_rfl) (fun _ _ _ h => h) (Or.inl ⟨by rfl, fun w' _ => by go_simp⟩) hHeld ?_
      go_frame
      refine held_take (i := 4) (v := (.bool true)) rfl (by kernel_rfl) (by kernel_rfl) (by kernel_rfl) (fun _ _ _ h => h) (Or.inl ⟨by rfl, fun w' _ => by kernel_rfl⟩) hHeld ?_
      go_frame
      refine held_take (i := 5) (v := (.slice (some ⟨b, o, none⟩) n cap)) rfl (by kernel_rfl) (by kernel_rfl) (by kernel_rfl) (fun _ _ _ h => h) (Or.inl ⟨by rfl, fun w' _ => by kernel_rfl⟩) hHeld ?_
      go_frame
      refine held_take (i := 6) (v := (.int .i64 (k : Int))) rfl (by kernel_rfl) (by kernel_rfl) (by kernel_rfl) (fun _ _ _ h => h) (Or.inl ⟨by rfl, fun w' _ => by kernel_rfl⟩) hHeld ?_
      go_frame
      refine held_take (i := 7) (v := (.pointer (some ⟨b, o + k * 32, none⟩))) rfl (by kernel_rfl) (by kernel_rfl) (by kernel_rfl) (fun _ _ _ h => h) (Or.inl ⟨by rfl, fun w' _ => by go_simp⟩) hHeld ?_
      go_frame
      refine held_take (i := 8) (v := (.agg (y.map bV).toArray)) rfl (by kernel_rfl) (by kernel_rfl) (by kernel_rfl) (fun _ _ _ h => h) (Sha.yieldsIf_load_mid (by rfl) 25 (.tmp 14) rfl b (o + k * 32) rfl (y.map bV) _ (fun w' hw' => range_below RY.out hw') Tryz.underlying25 rfl (by rw [LY.out]; kernel_rfl)) hHeld ?_
      go_frame
      refine held_take (i := 9) (v := (.agg (x.map bV).toArray)) rfl (by kernel_rfl) (by kernel_rfl) (by kernel_rfl) (fun _ _ _ h => h) (yieldsIf_load_row (by rfl) 25 (.tmp 3) rfl g3 rfl 25 (x.map bV).toArray (0, 0) _ (fun w' hw' => row_below F3.out hw') Tryz.underlying25 rfl (by rw [SX.out]; kernel_rfl)) hHeld ?_
      go_frame
      refine wpAnyH_ready (rs := [10]) (by kernel_rfl) (by simp) (held_cons rfl (fun K hK => ?_) AllReadyH.nil)
      rw [if_pos (by rfl)]
      go_simp
      refine (HLS.out _).mono ?_
      rintro e v1 ⟨rfl, bb⟩
      have hv1 := hHeld.trans (bb.mono hHeld.size)
      clear bb hHeld
      go_wp2_with fail
      refine hK.out _ _ hv1 (fun hHeld => ?_)
      clear hK K hv1
      refine held_take (i := 11) (v := (.bool c)) rfl (by kernel_rfl) (by kernel_rfl) (by kernel_rfl) (fun _ _ _ h => h) (Or.inl ⟨by rfl, fun w' _ => by go_simp⟩) hHeld ?_
      go_frame
      refine wpAnyH_done (by kernel_rfl) ?_ _
      obtain ⟨w4, hw4⟩ : ∃ w4, w4 = v1 := ⟨_, rfl⟩
      rw [← hw4] at  hHeld ⊢
      clear hw4
      have BY := Lib.hid hHeld
      have BK := Lib.hid (Below.trans BL.out (hHeld.mono BL.out.size))
      have B2 := Lib.hid (B.out.trans (hHeld.mono B.out.size))
      have F32 := Lib.hid (row_below F3.out hHeld)
      clear hHeld
      clear B F3
      cases c with
      | true =>
        go_wp2_with fail
        go_roundw
        case rel => exact ⟨k + 1, by go_num, by omega, fun j z hz hg => by
          by_cases e : j = k
          · subst e
            rw [YK.out] at hg
            rw [← Option.some.inj hg]
            exact CE.out.symm
          · exact HJ.out j z (by omega) hg, BK.out⟩
        case measure => simp [intOf]; omega
      | false =>
        have RY := Lib.hid (range_below RY.out BY.out)
        clear BY
        go_upto_region 4 with fail
        refine wp_region_held_drew (S := (fun w' => Below w4.heap.size w4 w')) (by kernel_rfl) (Below.drew (Below.refl _ _)) (fun hHeld => ?_)
        generalize hwd : w4.drew = wd at  hHeld ⊢
        clear hwd
        refine held_take (i := 0) (v := (.int .i64 (k : Int))) rfl (by kernel_rfl) (by kernel_rfl) (by kernel_rfl) (fun _ _ _ h => h) (Or.inl ⟨by rfl, fun w' _ => by kernel_rfl⟩) hHeld ?_
        go_frame
        refine held_take (i := 1) (v := (.slice (some ⟨b, o, none⟩) n cap)) rfl (by kernel_rfl) (by kernel_rfl) (by kernel_rfl) (fun _ _ _ h => h) (Or.inl ⟨by rfl, fun w' _ => by kernel_rfl⟩) hHeld ?_
        go_frame
        refine held_take (i := 2) (v := (.int .i64 (n : Int))) rfl (by kernel_rfl) (by kernel_rfl) (by kernel_rfl) (fun _ _ _ h => h) (Or.inl ⟨by rfl, fun w' _ => by go_simp⟩) hHeld ?_
        go_frame
        refine held_take (i := 3) (v := (.bool true)) rfl (by kernel_rfl) (by kernel_rfl) (by kernel_rfl) (fun _ _ _ h => h) (Or.inl ⟨by rfl, fun w' _ => by go_simp⟩) hHeld ?_
        go_frame
        refine held_take (i := 4) (v := (.bool true)) rfl (by kernel_rfl) (by kernel_rfl) (by kernel_rfl) (fun _ _ _ h => h) (Or.inl ⟨by rfl, fun w' _ => by kernel_rfl⟩) hHeld ?_
        go_frame
        refine held_take (i := 5) (v := (.slice (some ⟨b, o, none⟩) n cap)) rfl (by kernel_rfl) (by kernel_rfl) (by kernel_rfl) (fun _ _ _ h => h) (Or.inl ⟨by rfl, fun w' _ => by kernel_rfl⟩) hHeld ?_
        go_frame
        refine held_take (i := 6) (v := (.int .i64 (k : Int))) rfl (by kernel_rfl) (by kernel_rfl) (by kernel_rfl) (fun _ _ _ h => h) (Or.inl ⟨by rfl, fun w' _ => by kernel_rfl⟩) hHeld ?_
        go_frame
        refine held_take (i := 7) (v := (.pointer (some ⟨b, o + k * 32, none⟩))) rfl (by kernel_rfl) (by kernel_rfl) (by kernel_rfl) (fun _ _ _ h => h) (Or.inl ⟨by rfl, fun w' _ => by go_simp⟩) hHeld ?_
        go_frame
        refine held_take (i := 8) (v := (.agg (y.map bV).toArray)) rfl (by kernel_rfl) (by kernel_rfl) (by kernel_rfl) (fun _ _ _ h => h) (Sha.yieldsIf_load_mid (by rfl) 25 (.tmp 28) rfl b (o + k * 32) rfl (y.map bV) _ (fun w' hw' => range_below RY.out hw') Tryz.underlying25 rfl (by rw [LY.out]; kernel_rfl)) hHeld ?_
        go_frame
        refine held_take (i := 9) (v := (.agg (x.map bV).toArray)) rfl (by kernel_rfl) (by kernel_rfl) (by kernel_rfl) (fun _ _ _ h => h) (yieldsIf_load_row (by rfl) 25 (.tmp 3) rfl g3 rfl 25 (x.map bV).toArray (0, 0) _ (fun w' hw' => row_below F32.out hw') Tryz.underlying25 rfl (by rw [SX.out]; kernel_rfl)) hHeld ?_
        go_frame
        refine wpAnyH_ready (rs := [10]) (by kernel_rfl) (by simp) (held_cons rfl (fun K hK => ?_) AllReadyH.nil)
        rw [if_pos (by rfl)]
        go_simp
        refine (HSM.out _).mono ?_
        rintro e v1 ⟨rfl, bb⟩
        have hv1 := hHeld.trans (bb.mono hHeld.size)
        clear bb hHeld
        go_wp2_with fail
        refine hK.out _ _ hv1 (fun hHeld => ?_)
        clear hK K hv1
        refine held_take (i := 11) (v := (.bool s)) rfl (by kernel_rfl) (by kernel_rfl) (by kernel_rfl) (fun _ _ _ h => h) (Or.inl ⟨by rfl, fun w' _ => by go_simp⟩) hHeld ?_
        go_frame
        refine wpAnyH_done (by kernel_rfl) ?_ _
        obtain ⟨wx, hwx⟩ : ∃ wx, wx = v1 := ⟨_, rfl⟩
        rw [← hwx] at hHeld ⊢
        clear hwx
        have BX := Lib.hid (B2.out.trans (hHeld.mono B2.out.size))
        have FX := Lib.hid (row_below F32.out hHeld)
        clear hHeld
        clear B2 F32
        cases s with
        | true =>
          have e0 : y = x := of_decide_eq_true SE.out.symm
          have e1 : putH l x = l := by
            rw [PE.out, DE.out, putH, if_neg (by rw [← CE.out]; decide), if_pos e0, ← DE.out, List.take_append_drop]
          have E1 := Lib.hid e1
          clear e0 e1
          have HC := hashes_any l (some ⟨b, o, none⟩) n cap wx (HL.out.below BX.out) (by have := NM.out; omega)
          go_wp2_with fail
          refine HC.mono ?_
          rintro e w6 ⟨v6, rfl, ho, bb⟩
          have OV := Lib.hid (ho.lower BX.out.size)
          have B6 := Lib.hid (BX.out.trans (bb.mono BX.out.size))
          clear ho bb HC
          go_wp2_with fail
          go_ret
          exact ⟨_, rfl, by rw [E1.out]; exact OV.out, B6.out⟩
        | false =>
          have NEW : Hid (putH l x = l.take k ++ [x] ++ l.drop k) := by
            show _ = _
            rw [PE.out, DE.out, putH, if_neg (by rw [← CE.out]; decide), if_neg (of_decide_eq_false SE.out.symm), List.append_assoc]
            rfl
          obtain ⟨sp, hsp⟩ : ∃ sp, sp = some (⟨b, o, none⟩ : Addr) := ⟨_, rfl⟩
          rw [← hsp] at HL ⊢
          clear hsp RY HLS HSM
          have VH0 : ∃ v, v = sliced sp 0 k cap 32 := ⟨_, rfl⟩
          obtain ⟨vh, hvh⟩ := VH0
          have VH := Lib.hid hvh
          have hat := hs_head HL.out k KN.out
          rw [← hvh] at hat
          obtain ⟨sp2, cap2, hv2⟩ := hat.shape
          have HCP : Hid (∀ W, Below wx.heap.size wx W → Calls Tryz.prog 64 #[vh] W fun e w' => ∃ v, e = .returned v ∧ HsOwn W.heap.size w' v (l.take k) ∧ Below W.heap.size W w') := fun W hW => by
            have h := (hat.below BX.out).below hW
            rw [hv2] at h ⊢
            exact hashes_any (l.take k) sp2 _ cap2 W h (by rw [List.length_take]; have := KN.out; have := NM.out; omega)
          clear hvh hat hv2
          go_upto_region 6 with fail
          refine wp_region_held_drew (S := (fun w' => Below wx.heap.size wx w')) (by kernel_rfl) (Below.drew (Below.refl _ _)) (fun hHeld => ?_)
          generalize hwd : wx.drew = wd at  hHeld ⊢
          clear hwd
          refine held_take (i := 0) (v := (.slice sp n cap)) rfl (by kernel_rfl) (by kernel_rfl) (by kernel_rfl) (fun _ _ _ h => h) (Or.inl ⟨by rfl, fun w' _ => by kernel_rfl⟩) hHeld ?_
          go_frame
          refine held_take (i := 1) (v := (.int .i64 (k : Int))) rfl (by kernel_rfl) (by kernel_rfl) (by kernel_rfl) (fun _ _ _ h => h) (Or.inl ⟨by rfl, fun w' _ => by kernel_rfl⟩) hHeld ?_
          go_frame
          refine held_take (i := 2) (v := vh) rfl (by kernel_rfl) (by kernel_rfl) (by kernel_rfl) (fun _ _ _ h => h) (yieldsIf_cutS_h (by rfl) 42 (.tmp 35) (.tmp 36) rfl 25 32 Tryz.underlying42 (by kernel_rfl) sp n cap k rfl rfl (Nat.le_trans KN.out NC.out) vh VH.out.symm) hHeld ?_
          go_frame
          refine held_take (i := 4) (v := (.agg (x.map bV).toArray)) rfl (by kernel_rfl) (by kernel_rfl) (by kernel_rfl) (fun _ _ _ h => h) (yieldsIf_load_row (by rfl) 25 (.tmp 3) rfl g3 rfl 25 (x.map bV).toArray (0, 0) _ (fun w' hw' => row_below FX.out hw') Tryz.underlying25 rfl (by rw [SX.out]; kernel_rfl)) hHeld ?_
          go_frame
          refine wpAnyH_ready (rs := [3, 5]) (by kernel_rfl) (by simp) (held_cons rfl (fun K hK => ?_) (held_cons rfl (fun K hK => ?_) AllReadyH.nil))
          · skip
            go_simp
            refine (HCP.out _ hHeld).mono ?_
            rintro e v1 ⟨hv1, rfl, ho, bb⟩
            have OV := Lib.hid (ho.lower hHeld.size)
            have hv1 := hHeld.trans (bb.mono hHeld.size)
            clear bb hHeld
            go_wp2_with fail
            refine hK.out _ _ hv1 (fun hHeld => ?_)
            clear hK K hv1
            refine wpAnyH_ready (rs := [5]) (by kernel_rfl) (by simp) (held_cons rfl (fun K hK => ?_) AllReadyH.nil)
            rw [if_pos (by rfl)]
            refine wp_slice_one 42 25 (.tmp 39) rfl (x.map bV) rfl Tryz.underlying42 i0 _ hi hz0 (by rw [hz1, LXB.out]) (by rw [LXB.out]; omega) (by rw [LXB.out]; omega) ?_
            have nf := heap_alloc_new v1 (.cells (x.map bV).toArray 25 (0, 0))
            have bb := (Below.refl v1.heap.size v1).alloc (Nat.le_refl _) (.cells (x.map bV).toArray 25 (0, 0))
            obtain ⟨gv2, hgv2⟩ : ∃ g, g = v1.heap.size := ⟨_, rfl⟩
            generalize hqv2 : World.alloc _ _ = v2
            have ev2 : v1.alloc (.cells (x.map bV).toArray 25 (0, 0)) = v2 := hqv2
            rw [ev2] at nf bb
            rw [← hgv2] at nf ⊢
            have NF := Lib.hid nf
            have OV := Lib.hid (OV.out.keep bb)
            have hv2 := hHeld.trans (bb.mono hHeld.size)
            clear nf bb hqv2 ev2 hgv2 hHeld
            go_frame
            refine hK.out _ _ hv2 (fun hHeld => ?_)
            clear hK K hv2
            refine wpAnyH_ready (rs := [6]) (by kernel_rfl) (by simp) (held_cons rfl (fun K hK => ?_) AllReadyH.nil)
            rw [if_pos (by rfl)]
            refine wp_append_row v2 (.tmp 38) (.tmp 40) 42 rfl wx.heap.size 25 i0 (.agg (List.replicate 32 (bV 0)).toArray) 32 32 Tryz.underlying42 hi hz0 hz1 hz2 (by kernel_rfl) (by decide) hv1 _ (hsL (l.take k)) rfl OV.out.1 ⟨gv2, 0, none⟩ 1 1 (x.map bV) rfl (by rw [LXB.out]) (hs_one NF.out) (bV_one' _) (by have := DLK.out; unfold maxLen; omega) (by have := DLK.out; omega) hHeld.size ?_
            intro xv3 v3 q1 q2 _
            have OV2 := Lib.hid (HsOwn.push (base := wx.heap.size) OV.out.2 LX.out q1)
            have hv3 := own_grown hHeld (Nat.le_refl _) hHeld.size OV.out.1 q2
            clear q1 q2 hHeld
            go_frame
            refine hK.out _ _ hv3 (fun hHeld => ?_)
            clear hK K hv3
            refine held_take (i := 7) (v := xv3) rfl (by kernel_rfl) (by kernel_rfl) (by kernel_rfl) (fun _ _ _ h => h) (Or.inl ⟨by rfl, fun w' _ => by kernel_rfl⟩) hHeld ?_
            go_frame
            refine wpAnyH_done (by kernel_rfl) ?_ _
            obtain ⟨w8, hw8⟩ : ∃ w8, w8 = v3 := ⟨_, rfl⟩
            rw [← hw8] at OV2 hHeld ⊢
            clear hw8
            have B8 := Lib.hid (BX.out.trans (hHeld.mono BX.out.size))
            have OW8 := Lib.hid (OV2.out.lower BX.out.size)
            have L8 := Lib.hid (HL.out.below B8.out)
            clear hHeld OV2 BX
            go_wp2_with (first | ((with_reducible show wpList _ _ _ _ _ _); (refine wpList_cutS_l rfl 42 (.tmp 43) (.tmp 44) rfl 25 32 Tryz.underlying42 (by kernel_rfl) sp n cap k rfl rfl KN.out ?_; intro vt hvt; go_frame)) | (at_builtin; refine wpList_append_rw _ rfl (.tmp 42) (.tmp 45) 42 rfl w.heap.size 25 i0 (.agg (List.replicate 32 (bV 0)).toArray) 32 32 Tryz.underlying42 hi hz0 hz1 hz2 (by kernel_rfl) (by decide) xv3 (HR (l.take k ++ [x])) rfl (hs_rw_own OW8.out) vt (HR (l.drop k)) rfl (hs_rw_at (by rw [hvt.out]; exact hs_tail L8.out k KN.out)) (HR_one _) LEN.out.1 LEN.out.2 B8.out.size ?_; intro v9 w9 q1 q2; have O9 := Lib.hid q1; have B9 := Lib.hid (own_grown B8.out (Nat.le_refl _) B8.out.size OW8.out.1 q2); clear q1 q2; go_frame))
            go_ret
            exact ⟨_, rfl, by rw [NEW.out]; exact rw_hs_own (by have h := O9.out; unfold HR at h ⊢; rw [List.map_append]; exact h) OKN.out, B9.out⟩
          · skip
            rw [if_pos (by rfl)]
            refine wp_slice_one 42 25 (.tmp 39) rfl (x.map bV) rfl Tryz.underlying42 i0 _ hi hz0 (by rw [hz1, LXB.out]) (by rw [LXB.out]; omega) (by rw [LXB.out]; omega) ?_
            have nf := heap_alloc_new wd (.cells (x.map bV).toArray 25 (0, 0))
            have bb := (Below.refl wd.heap.size wd).alloc (Nat.le_refl _) (.cells (x.map bV).toArray 25 (0, 0))
            obtain ⟨gv4, hgv4⟩ : ∃ g, g = wd.heap.size := ⟨_, rfl⟩
            generalize hqv4 : World.alloc _ _ = v4
            have ev4 : wd.alloc (.cells (x.map bV).toArray 25 (0, 0)) = v4 := hqv4
            rw [ev4] at nf bb
            rw [← hgv4] at nf ⊢
            have NF := Lib.hid nf
            have hv4 := hHeld.trans (bb.mono hHeld.size)
            clear nf bb hqv4 ev4 hgv4 hHeld
            go_frame
            refine hK.out _ _ hv4 (fun hHeld => ?_)
            clear hK K hv4
            refine wpAnyH_ready (rs := [3]) (by kernel_rfl) (by simp) (held_cons rfl (fun K hK => ?_) AllReadyH.nil)
            go_simp
            refine (HCP.out _ hHeld).mono ?_
            rintro e v5 ⟨hv1, rfl, ho, bb⟩
            have OV := Lib.hid (ho.lower hHeld.size)
            have NF := Lib.hid (row_below NF.out bb)
            have hv5 := hHeld.trans (bb.mono hHeld.size)
            clear bb hHeld
            go_wp2_with fail
            refine hK.out _ _ hv5 (fun hHeld => ?_)
            clear hK K hv5
            refine wpAnyH_ready (rs := [6]) (by kernel_rfl) (by simp) (held_cons rfl (fun K hK => ?_) AllReadyH.nil)
            rw [if_pos (by rfl)]
            refine wp_append_row v5 (.tmp 38) (.tmp 40) 42 rfl wx.heap.size 25 i0 (.agg (List.replicate 32 (bV 0)).toArray) 32 32 Tryz.underlying42 hi hz0 hz1 hz2 (by kernel_rfl) (by decide) hv1 _ (hsL (l.take k)) rfl OV.out.1 ⟨gv4, 0, none⟩ 1 1 (x.map bV) rfl (by rw [LXB.out]) (hs_one NF.out) (bV_one' _) (by have := DLK.out; unfold maxLen; omega) (by have := DLK.out; omega) hHeld.size ?_
            intro xv6 v6 q1 q2 _
            have OV2 := Lib.hid (HsOwn.push (base := wx.heap.size) OV.out.2 LX.out q1)
            have hv6 := own_grown hHeld (Nat.le_refl _) hHeld.size OV.out.1 q2
            clear q1 q2 hHeld
            go_frame
            refine hK.out _ _ hv6 (fun hHeld => ?_)
            clear hK K hv6
            refine held_take (i := 7) (v := xv6) rfl (by kernel_rfl) (by kernel_rfl) (by kernel_rfl) (fun _ _ _ h => h) (Or.inl ⟨by rfl, fun w' _ => by kernel_rfl⟩) hHeld ?_
            go_frame
            refine wpAnyH_done (by kernel_rfl) ?_ _
            obtain ⟨w8, hw8⟩ : ∃ w8, w8 = v6 := ⟨_, rfl⟩
            rw [← hw8] at OV2 hHeld ⊢
            clear hw8
            have B8 := Lib.hid (BX.out.trans (hHeld.mono BX.out.size))
            have OW8 := Lib.hid (OV2.out.lower BX.out.size)
            have L8 := Lib.hid (HL.out.below B8.out)
            clear hHeld OV2 BX
            go_wp2_with (first | ((with_reducible show wpList _ _ _ _ _ _); (refine wpList_cutS_l rfl 42 (.tmp 43) (.tmp 44) rfl 25 32 Tryz.underlying42 (by kernel_rfl) sp n cap k rfl rfl KN.out ?_; intro vt hvt; go_frame)) | (at_builtin; refine wpList_append_rw _ rfl (.tmp 42) (.tmp 45) 42 rfl w.heap.size 25 i0 (.agg (List.replicate 32 (bV 0)).toArray) 32 32 Tryz.underlying42 hi hz0 hz1 hz2 (by kernel_rfl) (by decide) xv6 (HR (l.take k ++ [x])) rfl (hs_rw_own OW8.out) vt (HR (l.drop k)) rfl (hs_rw_at (by rw [hvt.out]; exact hs_tail L8.out k KN.out)) (HR_one _) LEN.out.1 LEN.out.2 B8.out.size ?_; intro v9 w9 q1 q2; have O9 := Lib.hid q1; have B9 := Lib.hid (own_grown B8.out (Nat.le_refl _) B8.out.size OW8.out.1 q2); clear q1 q2; go_frame))
            go_ret
            exact ⟨_, rfl, by rw [NEW.out]; exact rw_hs_own (by have h := O9.out; unfold HR at h ⊢; rw [List.map_append]; exact h) OKN.out, B9.out⟩
    · have EKN : Hid (k = n) := by show _ = _; omega
      have PE : Hid (putH l x = l.take k ++ putH (l.drop k) x) := putH_at l x k (by have := NLE.out; omega) HJ.out
      have NEW : Hid (putH l x = l.take k ++ [x] ++ l.drop k) := by
        have e : l.drop k = [] := List.drop_eq_nil_of_le (by have := NLE.out; have := EKN.out; omega)
        show _ = _
        rw [PE.out, e, List.append_nil]
        rfl
      go_upto_region 2 with fail
      refine wp_region_held_drew (S := (fun w' => Below wr.heap.size wr w')) (by kernel_rfl) (Below.drew (Below.refl _ _)) (fun hHeld => ?_)
      generalize hwd : wr.drew = wd at  hHeld ⊢
      clear hwd
      refine held_take (i := 0) (v := (.int .i64 (k : Int))) rfl (by kernel_rfl) (by kernel_rfl) (by kernel_rfl) (fun _ _ _ h => h) (Or.inl ⟨by rfl, fun w' _ => by kernel_rfl⟩) hHeld ?_
      go_frame
      refine held_take (i := 1) (v := (.slice sp n cap)) rfl (by kernel_rfl) (by kernel_rfl) (by kernel_rfl) (fun _ _ _ h => h) (Or.inl ⟨by rfl, fun w' _ => by kernel_rfl⟩) hHeld ?_
      go_frame
      refine held_take (i := 2) (v := (.int .i64 (n : Int))) rfl (by kernel_rfl) (by kernel_rfl) (by kernel_rfl) (fun _ _ _ h => h) (Or.inl ⟨by rfl, fun w' _ => by go_simp⟩) hHeld ?_
      go_frame
      refine held_take (i := 3) (v := (.bool false)) rfl (by kernel_rfl) (by kernel_rfl) (by kernel_rfl) (fun _ _ _ h => h) (Or.inl ⟨by rfl, fun w' _ => by go_simp⟩) hHeld ?_
      go_frame
      refine held_take (i := 4) (v := (.bool false)) rfl (by kernel_rfl) (by kernel_rfl) (by kernel_rfl) (fun _ _ _ h => h) (Or.inl ⟨by rfl, fun w' _ => by kernel_rfl⟩) hHeld ?_
      go_frame
      refine held_take (i := 5) (v := undef) rfl (by kernel_rfl) (by kernel_rfl) (by kernel_rfl) (fun _ _ _ h => h) (Or.inr ⟨by rfl, rfl⟩) hHeld ?_
      go_frame
      refine held_take (i := 6) (v := undef) rfl (by kernel_rfl) (by kernel_rfl) (by kernel_rfl) (fun _ _ _ h => h) (Or.inr ⟨by rfl, rfl⟩) hHeld ?_
      go_frame
      refine held_take (i := 7) (v := undef) rfl (by kernel_rfl) (by kernel_rfl) (by kernel_rfl) (fun _ _ _ h => h) (Or.inr ⟨by rfl, rfl⟩) hHeld ?_
      go_frame
      refine held_take (i := 8) (v := undef) rfl (by kernel_rfl) (by kernel_rfl) (by kernel_rfl) (fun _ _ _ h => h) (Or.inr ⟨by rfl, rfl⟩) hHeld ?_
      go_frame
      refine held_take (i := 9) (v := undef) rfl (by kernel_rfl) (by kernel_rfl) (by kernel_rfl) (fun _ _ _ h => h) (Or.inr ⟨by rfl, rfl⟩) hHeld ?_
      go_frame
      refine held_take (i := 10) (v := undef) rfl (by kernel_rfl) (by kernel_rfl) (by kernel_rfl) (fun _ _ _ h => h) (Or.inr ⟨by rfl, rfl⟩) hHeld ?_
      go_frame
      refine held_take (i := 11) (v := (.bool false)) rfl (by kernel_rfl) (by kernel_rfl) (by kernel_rfl) (fun _ _ _ h => h) (Or.inl ⟨by rfl, fun w' _ => by go_simp⟩) hHeld ?_
      go_frame
      refine wpAnyH_done (by kernel_rfl) ?_ _
      obtain ⟨w4, hw4⟩ : ∃ w4, w4 = wd := ⟨_, rfl⟩
      rw [← hw4] at  hHeld ⊢
      clear hw4
      have B2 := Lib.hid (B.out.trans (hHeld.mono B.out.size))
      have F32 := Lib.hid (row_below F3.out hHeld)
      clear hHeld
      clear B F3
      go_upto_region 4 with fail
      refine wp_region_held_drew (S := (fun w' => Below w4.heap.size w4 w')) (by kernel_rfl) (Below.drew (Below.refl _ _)) (fun hHeld => ?_)
      generalize hwd : w4.drew = wd at  hHeld ⊢
      clear hwd
      refine held_take (i := 0) (v := (.int .i64 (k : Int))) rfl (by kernel_rfl) (by kernel_rfl) (by kernel_rfl) (fun _ _ _ h => h) (Or.inl ⟨by rfl, fun w' _ => by kernel_rfl⟩) hHeld ?_
      go_frame
      refine held_take (i := 1) (v := (.slice sp n cap)) rfl (by kernel_rfl) (by kernel_rfl) (by kernel_rfl) (fun _ _ _ h => h) (Or.inl ⟨by rfl, fun w' _ => by kernel_rfl⟩) hHeld ?_
      go_frame
      refine held_take (i := 2) (v := (.int .i64 (n : Int))) rfl (by kernel_rfl) (by kernel_rfl) (by kernel_rfl) (fun _ _ _ h => h) (Or.inl ⟨by rfl, fun w' _ => by go_simp⟩) hHeld ?_
      go_frame
      refine held_take (i := 3) (v := (.bool false)) rfl (by kernel_rfl) (by kernel_rfl) (by kernel_rfl) (fun _ _ _ h => h) (Or.inl ⟨by rfl, fun w' _ => by go_simp⟩) hHeld ?_
      go_frame
      refine held_take (i := 4) (v := (.bool false)) rfl (by kernel_rfl) (by kernel_rfl) (by kernel_rfl) (fun _ _ _ h => h) (Or.inl ⟨by rfl, fun w' _ => by kernel_rfl⟩) hHeld ?_
      go_frame
      refine held_take (i := 5) (v := undef) rfl (by kernel_rfl) (by kernel_rfl) (by kernel_rfl) (fun _ _ _ h => h) (Or.inr ⟨by rfl, rfl⟩) hHeld ?_
      go_frame
      refine held_take (i := 6) (v := undef) rfl (by kernel_rfl) (by kernel_rfl) (by kernel_rfl) (fun _ _ _ h => h) (Or.inr ⟨by rfl, rfl⟩) hHeld ?_
      go_frame
      refine held_take (i := 7) (v := undef) rfl (by kernel_rfl) (by kernel_rfl) (by kernel_rfl) (fun _ _ _ h => h) (Or.inr ⟨by rfl, rfl⟩) hHeld ?_
      go_frame
      refine held_take (i := 8) (v := undef) rfl (by kernel_rfl) (by kernel_rfl) (by kernel_rfl) (fun _ _ _ h => h) (Or.inr ⟨by rfl, rfl⟩) hHeld ?_
      go_frame
      refine held_take (i := 9) (v := undef) rfl (by kernel_rfl) (by kernel_rfl) (by kernel_rfl) (fun _ _ _ h => h) (Or.inr ⟨by rfl, rfl⟩) hHeld ?_
      go_frame
      refine held_take (i := 10) (v := undef) rfl (by kernel_rfl) (by kernel_rfl) (by kernel_rfl) (fun _ _ _ h => h) (Or.inr ⟨by rfl, rfl⟩) hHeld ?_
      go_frame
      refine held_take (i := 11) (v := (.bool false)) rfl (by kernel_rfl) (by kernel_rfl) (by kernel_rfl) (fun _ _ _ h => h) (Or.inl ⟨by rfl, fun w' _ => by go_simp⟩) hHeld ?_
      go_frame
      refine wpAnyH_done (by kernel_rfl) ?_ _
      obtain ⟨wx, hwx⟩ : ∃ wx, wx = wd := ⟨_, rfl⟩
      rw [← hwx] at hHeld ⊢
      clear hwx
      have BX := Lib.hid (B2.out.trans (hHeld.mono B2.out.size))
      have FX := Lib.hid (row_below F32.out hHeld)
      clear hHeld B2 F32
      have VH0 : ∃ v, v = sliced sp 0 k cap 32 := ⟨_, rfl⟩
      obtain ⟨vh, hvh⟩ := VH0
      have VH := Lib.hid hvh
      have hat := hs_head HL.out k KN.out
      rw [← hvh] at hat
      obtain ⟨sp2, cap2, hv2⟩ := hat.shape
      have HCP : Hid (∀ W, Below wx.heap.size wx W → Calls Tryz.prog 64 #[vh] W fun e w' => ∃ v, e = .returned v ∧ HsOwn W.heap.size w' v (l.take k) ∧ Below W.heap.size W w') := fun W hW => by
        have h := (hat.below BX.out).below hW
        rw [hv2] at h ⊢
        exact hashes_any (l.take k) sp2 _ cap2 W h (by rw [List.length_take]; have := KN.out; have := NM.out; omega)
      clear hvh hat hv2
      go_upto_region 6 with fail
      clear hlt hkn
      refine wp_region_held_drew (S := (fun w' => Below wx.heap.size wx w')) (by kernel_rfl) (Below.drew (Below.refl _ _)) (fun hHeld => ?_)
      generalize hwd : wx.drew = wd at  hHeld ⊢
      clear hwd
      refine held_take (i := 0) (v := (.slice sp n cap)) rfl (by kernel_rfl) (by kernel_rfl) (by kernel_rfl) (fun _ _ _ h => h) (Or.inl ⟨by rfl, fun w' _ => by kernel_rfl⟩) hHeld ?_
      go_frame
      refine held_take (i := 1) (v := (.int .i64 (k : Int))) rfl (by kernel_rfl) (by kernel_rfl) (by kernel_rfl) (fun _ _ _ h => h) (Or.inl ⟨by rfl, fun w' _ => by kernel_rfl⟩) hHeld ?_
      go_frame
      refine held_take (i := 2) (v := vh) rfl (by kernel_rfl) (by kernel_rfl) (by kernel_rfl) (fun _ _ _ h => h) (yieldsIf_cutS_h (by rfl) 42 (.tmp 35) (.tmp 36) rfl 25 32 Tryz.underlying42 (by kernel_rfl) sp n cap k rfl rfl (Nat.le_trans KN.out NC.out) vh VH.out.symm) hHeld ?_
      go_frame
      refine held_take (i := 4) (v := (.agg (x.map bV).toArray)) rfl (by kernel_rfl) (by kernel_rfl) (by kernel_rfl) (fun _ _ _ h => h) (yieldsIf_load_row (by rfl) 25 (.tmp 3) rfl g3 rfl 25 (x.map bV).toArray (0, 0) _ (fun w' hw' => row_below FX.out hw') Tryz.underlying25 rfl (by rw [SX.out]; kernel_rfl)) hHeld ?_
      go_frame
      refine wpAnyH_ready (rs := [3, 5]) (by kernel_rfl) (by simp) (held_cons rfl (fun K hK => ?_) (held_cons rfl (fun K hK => ?_) AllReadyH.nil))
      · skip
        go_simp
        refine (HCP.out _ hHeld).mono ?_
        rintro e v1 ⟨hv1, rfl, ho, bb⟩
        have OV := Lib.hid (ho.lower hHeld.size)
        have hv1 := hHeld.trans (bb.mono hHeld.size)
        clear bb hHeld
        go_wp2_with fail
        refine hK.out _ _ hv1 (fun hHeld => ?_)
        clear hK K hv1
        refine wpAnyH_ready (rs := [5]) (by kernel_rfl) (by simp) (held_cons rfl (fun K hK => ?_) AllReadyH.nil)
        rw [if_pos (by rfl)]
        refine wp_slice_one 42 25 (.tmp 39) rfl (x.map bV) rfl Tryz.underlying42 i0 _ hi hz0 (by rw [hz1, LXB.out]) (by rw [LXB.out]; omega) (by rw [LXB.out]; omega) ?_
        have nf := heap_alloc_new v1 (.cells (x.map bV).toArray 25 (0, 0))
        have bb := (Below.refl v1.heap.size v1).alloc (Nat.le_refl _) (.cells (x.map bV).toArray 25 (0, 0))
        obtain ⟨gv2, hgv2⟩ : ∃ g, g = v1.heap.size := ⟨_, rfl⟩
        generalize hqv2 : World.alloc _ _ = v2
        have ev2 : v1.alloc (.cells (x.map bV).toArray 25 (0, 0)) = v2 := hqv2
        rw [ev2] at nf bb
        rw [← hgv2] at nf ⊢
        have NF := Lib.hid nf
        have OV := Lib.hid (OV.out.keep bb)
        have hv2 := hHeld.trans (bb.mono hHeld.size)
        clear nf bb hqv2 ev2 hgv2 hHeld
        go_frame
        refine hK.out _ _ hv2 (fun hHeld => ?_)
        clear hK K hv2
        refine wpAnyH_ready (rs := [6]) (by kernel_rfl) (by simp) (held_cons rfl (fun K hK => ?_) AllReadyH.nil)
        rw [if_pos (by rfl)]
        refine wp_append_row v2 (.tmp 38) (.tmp 40) 42 rfl wx.heap.size 25 i0 (.agg (List.replicate 32 (bV 0)).toArray) 32 32 Tryz.underlying42 hi hz0 hz1 hz2 (by kernel_rfl) (by decide) hv1 _ (hsL (l.take k)) rfl OV.out.1 ⟨gv2, 0, none⟩ 1 1 (x.map bV) rfl (by rw [LXB.out]) (hs_one NF.out) (bV_one' _) (by have := DLK.out; unfold maxLen; omega) (by have := DLK.out; omega) hHeld.size ?_
        intro xv3 v3 q1 q2 _
        have OV2 := Lib.hid (HsOwn.push (base := wx.heap.size) OV.out.2 LX.out q1)
        have hv3 := own_grown hHeld (Nat.le_refl _) hHeld.size OV.out.1 q2
        clear q1 q2 hHeld
        go_frame
        refine hK.out _ _ hv3 (fun hHeld => ?_)
        clear hK K hv3
        refine held_take (i := 7) (v := xv3) rfl (by kernel_rfl) (by kernel_rfl) (by kernel_rfl) (fun _ _ _ h => h) (Or.inl ⟨by rfl, fun w' _ => by kernel_rfl⟩) hHeld ?_
        go_frame
        refine wpAnyH_done (by kernel_rfl) ?_ _
        obtain ⟨w8, hw8⟩ : ∃ w8, w8 = v3 := ⟨_, rfl⟩
        rw [← hw8] at OV2 hHeld ⊢
        clear hw8
        have B8 := Lib.hid (BX.out.trans (hHeld.mono BX.out.size))
        have OW8 := Lib.hid (OV2.out.lower BX.out.size)
        have L8 := Lib.hid (HL.out.below B8.out)
        clear hHeld OV2 BX
        go_wp2_with (first | ((with_reducible show wpList _ _ _ _ _ _); (refine wpList_cutS_l rfl 42 (.tmp 43) (.tmp 44) rfl 25 32 Tryz.underlying42 (by kernel_rfl) sp n cap k rfl rfl KN.out ?_; intro vt hvt; go_frame)) | (at_builtin; refine wpList_append_rw _ rfl (.tmp 42) (.tmp 45) 42 rfl w.heap.size 25 i0 (.agg (List.replicate 32 (bV 0)).toArray) 32 32 Tryz.underlying42 hi hz0 hz1 hz2 (by kernel_rfl) (by decide) xv3 (HR (l.take k ++ [x])) rfl (hs_rw_own OW8.out) vt (HR (l.drop k)) rfl (hs_rw_at (by rw [hvt.out]; exact hs_tail L8.out k KN.out)) (HR_one _) LEN.out.1 LEN.out.2 B8.out.size ?_; intro v9 w9 q1 q2; have O9 := Lib.hid q1; have B9 := Lib.hid (own_grown B8.out (Nat.le_refl _) B8.out.size OW8.out.1 q2); clear q1 q2; go_frame))
        go_ret
        exact ⟨_, rfl, by rw [NEW.out]; exact rw_hs_own (by have h := O9.out; unfold HR at h ⊢; rw [List.map_append]; exact h) OKN.out, B9.out⟩
      · skip
        rw [if_pos (by rfl)]
        refine wp_slice_one 42 25 (.tmp 39) rfl (x.map bV) rfl Tryz.underlying42 i0 _ hi hz0 (by rw [hz1, LXB.out]) (by rw [LXB.out]; omega) (by rw [LXB.out]; omega) ?_
        have nf := heap_alloc_new wd (.cells (x.map bV).toArray 25 (0, 0))
        have bb := (Below.refl wd.heap.size wd).alloc (Nat.le_refl _) (.cells (x.map bV).toArray 25 (0, 0))
        obtain ⟨gv4, hgv4⟩ : ∃ g, g = wd.heap.size := ⟨_, rfl⟩
        generalize hqv4 : World.alloc _ _ = v4
        have ev4 : wd.alloc (.cells (x.map bV).toArray 25 (0, 0)) = v4 := hqv4
        rw [ev4] at nf bb
        rw [← hgv4] at nf ⊢
        have NF := Lib.hid nf
        have hv4 := hHeld.trans (bb.mono hHeld.size)
        clear nf bb hqv4 ev4 hgv4 hHeld
        go_frame
        refine hK.out _ _ hv4 (fun hHeld => ?_)
        clear hK K hv4
        refine wpAnyH_ready (rs := [3]) (by kernel_rfl) (by simp) (held_cons rfl (fun K hK => ?_) AllReadyH.nil)
        go_simp
        refine (HCP.out _ hHeld).mono ?_
        rintro e v5 ⟨hv1, rfl, ho, bb⟩
        have OV := Lib.hid (ho.lower hHeld.size)
        have NF := Lib.hid (row_below NF.out bb)
        have hv5 := hHeld.trans (bb.mono hHeld.size)
        clear bb hHeld
        go_wp2_with fail
        refine hK.out _ _ hv5 (fun hHeld => ?_)
        clear hK K hv5
        refine wpAnyH_ready (rs := [6]) (by kernel_rfl) (by simp) (held_cons rfl (fun K hK => ?_) AllReadyH.nil)
        rw [if_pos (by rfl)]
        refine wp_append_row v5 (.tmp 38) (.tmp 40) 42 rfl wx.heap.size 25 i0 (.agg (List.replicate 32 (bV 0)).toArray) 32 32 Tryz.underlying42 hi hz0 hz1 hz2 (by kernel_rfl) (by decide) hv1 _ (hsL (l.take k)) rfl OV.out.1 ⟨gv4, 0, none⟩ 1 1 (x.map bV) rfl (by rw [LXB.out]) (hs_one NF.out) (bV_one' _) (by have := DLK.out; unfold maxLen; omega) (by have := DLK.out; omega) hHeld.size ?_
        intro xv6 v6 q1 q2 _
        have OV2 := Lib.hid (HsOwn.push (base := wx.heap.size) OV.out.2 LX.out q1)
        have hv6 := own_grown hHeld (Nat.le_refl _) hHeld.size OV.out.1 q2
        clear q1 q2 hHeld
        go_frame
        refine hK.out _ _ hv6 (fun hHeld => ?_)
        clear hK K hv6
        refine held_take (i := 7) (v := xv6) rfl (by kernel_rfl) (by kernel_rfl) (by kernel_rfl) (fun _ _ _ h => h) (Or.inl ⟨by rfl, fun w' _ => by kernel_rfl⟩) hHeld ?_
        go_frame
        refine wpAnyH_done (by kernel_rfl) ?_ _
        obtain ⟨w8, hw8⟩ : ∃ w8, w8 = v6 := ⟨_, rfl⟩
        rw [← hw8] at OV2 hHeld ⊢
        clear hw8
        have B8 := Lib.hid (BX.out.trans (hHeld.mono BX.out.size))
        have OW8 := Lib.hid (OV2.out.lower BX.out.size)
        have L8 := Lib.hid (HL.out.below B8.out)
        clear hHeld OV2 BX
        go_wp2_with (first | ((with_reducible show wpList _ _ _ _ _ _); (refine wpList_cutS_l rfl 42 (.tmp 43) (.tmp 44) rfl 25 32 Tryz.underlying42 (by kernel_rfl) sp n cap k rfl rfl KN.out ?_; intro vt hvt; go_frame)) | (at_builtin; refine wpList_append_rw _ rfl (.tmp 42) (.tmp 45) 42 rfl w.heap.size 25 i0 (.agg (List.replicate 32 (bV 0)).toArray) 32 32 Tryz.underlying42 hi hz0 hz1 hz2 (by kernel_rfl) (by decide) xv6 (HR (l.take k ++ [x])) rfl (hs_rw_own OW8.out) vt (HR (l.drop k)) rfl (hs_rw_at (by rw [hvt.out]; exact hs_tail L8.out k KN.out)) (HR_one _) LEN.out.1 LEN.out.2 B8.out.size ?_; intro v9 w9 q1 q2; have O9 := Lib.hid q1; have B9 := Lib.hid (own_grown B8.out (Nat.le_refl _) B8.out.size OW8.out.1 q2); clear q1 q2; go_frame))
        go_ret
        exact ⟨_, rfl, by rw [NEW.out]; exact rw_hs_own (by have h := O9.out; unfold HR at h ⊢; rw [List.map_append]; exact h) OKN.out, B9.out⟩
end Go.Proofs.YtbgagaaoldjhnaaGreatDoor.Sha

/-
  The reference's tree: what is under an id; both sides' row is the same. Conditions: the tree lies where it should.
-/
namespace Go.Proofs.YtbgagaaoldjhnaaGreatDoor.Sha
open Go Go.RowKit
theorem putH_mem : ∀ (l : List (List UInt8)) (x z : List UInt8), z ∈ putH l x → z = x ∨ z ∈ l
  | [], x, z, h => .inl (by simpa [putH] using h)
  | y :: l, x, z, h => by
    rw [putH] at h
    split at h
    · rcases List.mem_cons.1 h with e | e
      · exact .inr (by rw [e]; exact List.mem_cons_self)
      · rcases putH_mem l x z e with e | e
        · exact .inl e
        · exact .inr (List.mem_cons_of_mem _ e)
    · split at h
      · exact .inr h
      · rcases List.mem_cons.1 h with e | e
        · exact .inl e
        · exact .inr e
theorem putH_length : ∀ (l : List (List UInt8)) (x : List UInt8), (putH l x).length ≤ l.length + 1
  | [], _ => Nat.le_refl _
  | y :: l, x => by
    have := putH_length l x
    rw [putH]
    split
    · rw [List.length_cons, List.length_cons]; omega
    · split
      · exact Nat.le_succ _
      · exact Nat.le_refl _
theorem putH_perm : ∀ (l : List (List UInt8)) (x : List UInt8), x ∉ l → (putH l x).Perm (x :: l)
  | [], _, _ => List.Perm.refl _
  | y :: l, x, h => by
    rw [putH]
    split
    · exact ((putH_perm l x fun e => h (List.mem_cons_of_mem _ e)).cons y).trans (List.Perm.swap x y l)
    · split
      · rename_i e
        exact absurd (by rw [e]; exact List.mem_cons_self) h
      · exact List.Perm.refl _
theorem putH_rises : ∀ (l : List (List UInt8)) (x : List UInt8), HsOk l → x.length = 32 → l.Pairwise (fun a b => lessL a b = true) → (putH l x).Pairwise fun a b => lessL a b = true
  | [], _, _, _, _ => by simp [putH]
  | y :: l, x, ho, hx, hp => by
    have hy : y.length = 32 := ho y List.mem_cons_self
    have hl : HsOk l := fun z hz => ho z (List.mem_cons_of_mem _ hz)
    obtain ⟨h1, h2⟩ := List.pairwise_cons.1 hp
    rw [putH]
    split
    · rename_i e
      refine List.pairwise_cons.2 ⟨fun z hz => ?_, putH_rises l x hl hx h2⟩
      rcases putH_mem l x z hz with rfl | hz
      · exact e
      · exact h1 z hz
    · split
      · exact hp
      · rename_i e1 e2
        have e3 : lessL x y = true := less_total y x (by rw [hx, hy]) e2 (by simpa using e1)
        refine List.pairwise_cons.2 ⟨fun z hz => ?_, hp⟩
        rcases List.mem_cons.1 hz with rfl | hz
        · exact e3
        · exact less_trans x y z (by rw [hx, hy]) (by rw [hy, hl z hz]) e3 (h1 z hz)
def foldP {α : Type} (f : α → List UInt8) (J : List α) (acc : List (List UInt8)) : List (List UInt8) := J.foldl (fun a j => putH a (f j)) acc
theorem foldP_snoc {α : Type} (f : α → List UInt8) (J : List α) (j : α) (acc : List (List UInt8)) : foldP f (J ++ [j]) acc = putH (foldP f J acc) (f j) := by unfold foldP; rw [List.foldl_append]; rfl
theorem foldP_ok {α : Type} (f : α → List UInt8) (hf : ∀ j, (f j).length = 32) : ∀ (J : List α) (acc : List (List UInt8)), HsOk acc → acc.Pairwise (fun a b => lessL a b = true) → HsOk (foldP f J acc) ∧ (foldP f J acc).Pairwise (fun a b => lessL a b = true)
  | [], acc, h1, h2 => ⟨h1, h2⟩
  | j :: J, acc, h1, h2 => foldP_ok f hf J (putH acc (f j)) (fun z hz => by
      rcases putH_mem acc (f j) z hz with rfl | hz
      · exact hf j
      · exact h1 z hz) (putH_rises acc (f j) h1 (hf j) h2)
theorem foldP_length {α : Type} (f : α → List UInt8) : ∀ (J : List α) (acc : List (List UInt8)), (foldP f J acc).length ≤ J.length + acc.length
  | [], acc => by simp [foldP]
  | j :: J, acc => by
    have h1 := foldP_length f J (putH acc (f j))
    have h2 := putH_length acc (f j)
    have e : foldP f (j :: J) acc = foldP f J (putH acc (f j)) := rfl
    rw [e, List.length_cons]
    omega
theorem foldP_perm {α : Type} (f : α → List UInt8) : ∀ (J : List α) (acc : List (List UInt8)), (J.map f ++ acc).Nodup → (foldP f J acc).Perm (J.map f ++ acc)
  | [], acc, _ => List.Perm.refl _
  | j :: J, acc, h => by
    rw [List.map_cons, List.cons_append] at h ⊢
    obtain ⟨h1, h2⟩ := List.nodup_cons.1 h
    have hp := putH_perm acc (f j) fun e => h1 (List.mem_append_right _ e)
    have h3 : (J.map f ++ putH acc (f j)).Perm (f j :: (J.map f ++ acc)) := (List.Perm.append_left _ hp).trans List.perm_middle
    exact (foldP_perm f J (putH acc (f j)) (h3.nodup_iff.2 h)).trans h3
theorem rises_unique : ∀ (l m : List (List UInt8)), l.Perm m → l.Pairwise (fun x y => lessL y x = false) → m.Pairwise (fun x y => lessL x y = true) → l = m
  | [], m, h, _, _ => (List.nil_perm.1 h).symm
  | a :: l, [], h, _, _ => by simp at h
  | a :: l, b :: m, h, h1, h2 => by
    obtain ⟨p1, p2⟩ := List.pairwise_cons.1 h1
    obtain ⟨q1, q2⟩ := List.pairwise_cons.1 h2
    have e : a = b := by
      have ha : a ∈ b :: m := h.subset List.mem_cons_self
      have hb : b ∈ a :: l := h.symm.subset List.mem_cons_self
      rcases List.mem_cons.1 ha with e | ha
      · exact e
      rcases List.mem_cons.1 hb with e | hb
      · exact e.symm
      have h3 := p1 b hb
      rw [q1 a ha] at h3
      cases h3
    subst e
    rw [rises_unique l m (List.Perm.cons_inv h) p2 q2]
def idAt (L : List TNd) (j : Nat) : List UInt8 := (L.getD j ndZ).id
def undR (L : List TNd) (id : List UInt8) : List (List UInt8) := if findT L id < 0 then [] else foldP (idAt L) (subI L (findT L id).toNat) []
theorem idAt_len {L : List TNd} (ho : ∀ x ∈ L, NdOk x) (j : Nat) : (idAt L j).length = 32 := by
  unfold idAt
  rw [List.getD_eq_getElem?_getD]
  cases h : L[j]? with
  | none => rfl
  | some x => exact (ho x (List.mem_of_getElem? h)).1
theorem sub_ids {L : List TNd} (h : TrL L) (k : Nat) : ((subI L k).map (idAt L)).Nodup := by
  refine List.pairwise_map.2 ((sub_nodup L k).imp_of_mem fun {i j} hi hj hne e => ?_)
  have hp := List.pairwise_iff_getElem.1 h.ids
  have li := (sub_mem.1 hi).1
  have lj := (sub_mem.1 hj).1
  unfold idAt at e
  rw [List.getD_eq_getElem?_getD, List.getD_eq_getElem?_getD, List.getElem?_eq_getElem li, List.getElem?_eq_getElem lj] at e
  rcases Nat.lt_or_gt_of_ne hne with hlt | hlt
  · exact hp i j li lj hlt e
  · exact hp j i lj li hlt e.symm
/-- Both sides' row is the same. -/
theorem under_same {L : List TNd} (h : TrL L) {id : List UInt8} {l : List (List UInt8)} (hp : l.Perm (undT L id)) (hs : l.Pairwise fun x y => lessL y x = false) : l = undR L id := by
  unfold undT at hp
  unfold undR
  split
  · rename_i hn
    rw [if_pos hn] at hp
    exact List.perm_nil.1 hp
  · rename_i hn
    rw [if_neg hn] at hp
    refine rises_unique _ _ (hp.trans ?_) hs (foldP_ok (idAt L) (idAt_len h.ok) _ [] (fun z hz => absurd hz (by simp)) List.Pairwise.nil).2
    have h2 := foldP_perm (idAt L) (subI L (findT L id).toNat) [] (by rw [List.append_nil]; exact sub_ids h _)
    rw [List.append_nil] at h2
    exact h2.symm
def unF (L : List TNd) (k : Int) (i : Nat) : List (List UInt8) := if k < 0 then [] else foldP (idAt L) ((List.range i).filter fun j : Nat => belT L (j : Int) k) []
theorem unF_yes {L : List TNd} {k : Int} {i : Nat} (hk : ¬ k < 0) (h : belT L (i : Int) k = true) : unF L k (i + 1) = putH (unF L k i) (idAt L i) := by
  unfold unF
  have e : List.filter (fun j : Nat => belT L (j : Int) k) [i] = [i] := by simp [h]
  rw [if_neg hk, if_neg hk, List.range_succ, List.filter_append, e, foldP_snoc]
theorem unF_no {L : List TNd} {k : Int} {i : Nat} (h : belT L (i : Int) k = false) : unF L k (i + 1) = unF L k i := by
  unfold unF
  rw [List.range_succ, List.filter_append, List.filter_cons_of_neg (by rw [h]; decide), List.filter_nil, List.append_nil]
theorem unF_len (L : List TNd) (k : Int) (i : Nat) : (unF L k i).length ≤ i := by
  unfold unF
  split
  · exact Nat.zero_le _
  · have h1 := foldP_length (idAt L) ((List.range i).filter fun j : Nat => belT L (j : Int) k) []
    have h2 := List.length_filter_le (fun j : Nat => belT L (j : Int) k) (List.range i)
    rw [List.length_range] at h2
    simp only [List.length_nil] at h1
    omega
theorem unF_end (L : List TNd) (id : List UInt8) : unF L (findT L id) L.length = undR L id := by
  unfold unF undR
  split
  · rfl
  · rename_i h
    have e : ((findT L id).toNat : Int) = findT L id := by omega
    unfold subI
    rw [e]
theorem unF_none {L : List TNd} {id : List UInt8} (h : findT L id < 0) (i : Nat) : unF L (findT L id) i = undR L id := by
  unfold unF undR
  rw [if_pos h, if_pos h]
def RuInv (L : List TNd) (k : Int) (n : Nat) (w : World) (vo vi : Value) (wr : World) : Prop :=
  ∃ (i : Nat) (ov : Value), ov = vo ∧ vi = .int .i64 (i : Int) ∧ i ≤ n ∧ HsOwn w.heap.size wr ov (unF L k i) ∧ Below w.heap.size w wr
set_option maxHeartbeats 4000000 in
set_option maxRecDepth 100000 in
theorem runder_any (w : World) (base a : Nat) (v : Value) (L : List TNd) (id : List UInt8) (h : TreeAt w base a v L) (ho : ∀ x ∈ L, NdOk x) (hd : Down L) (hid : id.length = 32) (hn : L.length ≤ 4096) :
    Calls Tryz.prog 23 #[(.pointer (some ⟨a, 0, none⟩)), .agg (id.map bV).toArray] w fun e w' => ∃ v', e = .returned v' ∧ HsOwn w.heap.size w' v' (undR L id) ∧ Below w.heap.size w w' := by
  obtain ⟨sp, cap, rfl⟩ := h.at.shape
  rw [List.length_map] at h
  obtain ⟨n, hnl⟩ : ∃ n, n = L.length := ⟨_, rfl⟩
  rw [← hnl] at h hn
  have N := Lib.hid hnl
  have HT := Lib.hid h
  have OK := Lib.hid ho
  have DN := Lib.hid hd
  have NM := Lib.hid hn
  have nle := NM.out
  have ID := Lib.hid hid
  have SC : Hid ((id.map bV).toArray.size = 32) := by show _ = _; rw [List.size_toArray, List.length_map]; exact hid
  have FI : Hid (∀ W, Below w.heap.size w W → Calls Tryz.prog 35 #[(.pointer (some ⟨a, 0, none⟩)), .agg (id.map bV).toArray] W fun e w' => e = .returned (.int .i64 (findT L id)) ∧ Below W.heap.size W w') := fun W hW => rfind_any W base a (.slice sp n cap) L id (HT.out.below hW) OK.out ID.out (by rw [← N.out]; exact NM.out)
  have KB : Hid (-1 ≤ findT L id ∧ findT L id < (n : Int)) := by
    show _ ∧ _
    rcases findT_cases L id with ⟨e, _⟩ | ⟨k, x, e, hx, _⟩
    · rw [e]; omega
    · have := (List.getElem?_eq_some_iff.1 hx).1
      have := N.out
      rw [e]
      omega
  have UE : Hid (unF L (findT L id) n = undR L id) := by show _ = _; rw [N.out]; exact unF_end L id
  have UN : Hid (findT L id < 0 → ∀ i, unF L (findT L id) i = undR L id) := fun h i => unF_none h i
  obtain ⟨kk, hkk⟩ : ∃ kk, kk = findT L id := ⟨_, rfl⟩
  rw [← hkk] at FI KB UE UN
  obtain ⟨cq, hcq⟩ : ∃ cq, cq = id.map bV := ⟨_, rfl⟩
  rw [← hcq] at SC FI ⊢
  clear hnl h ho hd hn hid hkk hcq
  go_enter Tryz.func23, Tryz.ntmps23
  go_upto_region 1 with fail
  have f0 := heap_alloc_new w (.cells cq.toArray 25 (0, 0))
  have bb : Below w.heap.size w (w.alloc (.cells cq.toArray 25 (0, 0))) := ((Below.refl w.heap.size w).alloc (by first | exact Nat.le_refl _ | (simp only [World.size_alloc]; omega)) (.cells cq.toArray 25 (0, 0)))
  generalize hq : World.alloc _ _ = w1
  have eq : w.alloc (.cells cq.toArray 25 (0, 0)) = w1 := hq
  rw [eq] at f0 bb
  obtain ⟨g3, hg3⟩ : ∃ g3, g3 = w.heap.size := ⟨_, rfl⟩
  have Gg3 : Hid (w.heap.size ≤ g3) := by show _ ≤ _; omega
  rw [← hg3] at f0 ⊢
  have F3 := Lib.hid f0
  have B1 := Lib.hid bb
  clear f0 bb hq eq hg3
  have FD := FI.out w1 B1.out
  go_wp2_with ((with_reducible show wpList _ _ _ _ _ _); (refine wpList_load_row rfl 25 (.tmp 3) rfl g3 rfl 25 cq.toArray (0, 0) _ F3.out Tryz.underlying25 rfl (by rw [SC.out]; kernel_rfl) ?_; go_frame))
  refine FD.mono ?_
  rintro e w2 ⟨rfl, bb⟩
  have B2 := Lib.hid (B1.out.trans (bb.mono B1.out.size))
  clear bb FD FI F3 B1
  have kb := KB.out
  go_wp2_with fail
  go_loopw [6, 7] (fun vo vi wr => RuInv L kk n w vo vi wr) (fun _ vi _ => n - (intOf vi).toNat)
  case atStart => exact ⟨0, _, rfl, rfl, Nat.zero_le _, by have e : unF L kk 0 = [] := List.eq_nil_of_length_eq_zero (Nat.le_zero.1 (unF_len L kk 0)); rw [e]; exact HsOwn.nil _ _, B2.out⟩
  case round =>
    clear B2
    obtain ⟨i, ov, rfl, rfl, hin, ho, hb⟩ := hrel
    have HO := Lib.hid ho
    have B := Lib.hid hb
    have tc : wr.cell? ⟨a, 0, none⟩ = some (.slice sp n cap) := (HT.out.below hb).cell
    clear ho hb
    by_cases hk : kk < 0
    · have hkz : ¬ kk ≥ 0 := by omega
      by_cases hlt : i < n
      · go_wp2_with fail
        go_ret
        exact ⟨_, rfl, by rw [← UN.out hk i]; exact HO.out, B.out⟩
      · go_wp2_with fail
        go_ret
        exact ⟨_, rfl, by rw [← UN.out hk i]; exact HO.out, B.out⟩
    have hkz : kk ≥ 0 := by omega
    by_cases hlt : i < n
    · obtain ⟨x, hx⟩ : ∃ x, L[i]? = some x := ⟨_, List.getElem?_eq_getElem (by rw [← N.out]; exact hlt)⟩
      obtain ⟨b, o, rfl, hg⟩ := HT.out.get (show 0 < n by omega)
      have ox := OK.out x (List.mem_of_getElem? hx)
      have RI0 := Lib.hid (range_below (nd_id (hg i x hx)) B.out)
      obtain ⟨ix, hix⟩ : ∃ ix, ix = x.id := ⟨_, rfl⟩
      have LX : Hid (ix.length = 32) := by show _ = _; rw [hix]; exact ox.1
      have IX : Hid (idAt L i = ix) := by show _ = _; unfold idAt; rw [List.getD_eq_getElem?_getD, hx, hix]; rfl
      obtain ⟨ci, hci⟩ : ∃ ci, ci = ix.map bV := ⟨_, rfl⟩
      have LI : Hid (ci.length = 32) := by show _ = _; rw [hci, List.length_map]; exact LX.out
      have RI : Hid (wr.rangeAt b (o + i * 104) ci) := by show World.rangeAt _ _ _ _; rw [hci, hix]; exact RI0.out
      have CIE := Lib.hid hci
      have BE := rbelow_any wr base a (.slice (some ⟨b, o, none⟩) n cap) L (i : Int) kk (HT.out.below B.out) OK.out DN.out (by rw [← N.out]; exact nle) (by omega) (by have := N.out; omega) (by omega) (by omega)
      clear hx hg ox hix hci RI0
      go_wp2_with fail
      refine BE.mono ?_
      rintro e w5 ⟨rfl, rfl⟩
      clear BE
      cases hbl : belT L (i : Int) kk with
      | false =>
        go_wp2_with fail
        go_roundw
        case rel => exact ⟨i + 1, ov, rfl, by go_num, by omega, by rw [unF_no hbl]; exact HO.out, B.out⟩
        case measure => simp [intOf]; omega
      | true =>
        have HLN : Hid ((unF L kk i).length ≤ 65536) := by have := unF_len L kk i; show _ ≤ _; omega
        obtain ⟨sp2, cap2, rfl⟩ := (hs_rw_at HO.out.at).shape
        have hat := HO.out.at
        have PU := puthash_any (unF L kk i) ix sp2 _ cap2 wr hat LX.out (by unfold HR; rw [List.length_map]; exact HLN.out)
        rw [← CIE.out] at PU
        generalize (HR (unF L kk i)).length = no at PU HO hat
        clear hat
        go_wp2_with ((with_reducible show wpList _ _ _ _ _ _); (refine wpList_load_mid rfl 25 (.tmp 35) rfl b (o + i * 104) rfl ci _ RI.out Tryz.underlying25 rfl (by rw [LI.out]; kernel_rfl) ?_; go_frame))
        refine PU.mono ?_
        rintro e w6 ⟨v6, rfl, ho6, bb⟩
        have HO6 := Lib.hid (ho6.lower B.out.size)
        have B6 := Lib.hid (B.out.trans (bb.mono B.out.size))
        clear ho6 bb PU
        go_wp2_with fail
        go_roundw
        case rel => exact ⟨i + 1, v6, rfl, by go_num, by omega, by rw [unF_yes (by omega) hbl, IX.out]; exact HO6.out, B6.out⟩
        case measure => simp [intOf]; omega
    · have EI : Hid (i = n) := by show _ = _; omega
      clear hin
      go_wp2_with fail
      go_ret
      exact ⟨_, rfl, by have h := HO.out; rw [EI.out, UE.out] at h; exact h, B.out⟩
end Go.Proofs.YtbgagaaoldjhnaaGreatDoor.Sha

/-
  The program's tree and the document's, side by side: a header added to the one leaves the other; the same error. Conditions: those of the two trees.
-/
namespace Go.Proofs.YtbgagaaoldjhnaaGreatDoor.Sha
open Go Go.RowKit
def TwoM (base b mb a : Nat) (L L2 : List TNd) (w : World) : Prop := ∃ (M : List CNd) (v : Value), ndM M = L ∧ CtAt w base b mb M ∧ TreeAt w base a v L2
theorem TwoM.below {base b mb a : Nat} {L L2 : List TNd} {w w' : World} (h : TwoM base b mb a L L2 w) (hb : Below w.heap.size w w') : TwoM base b mb a L L2 w' := by
  obtain ⟨M, v, e, h1, h2⟩ := h
  exact ⟨M, v, e, h1.below hb, h2.below hb⟩
theorem CtAt.mapF {w : World} {base b mb : Nat} {M : List CNd} (h : CtAt w base b mb M) {x : Nat} {cs : Array Value} {T : TypeId} {fr : Nat × Nat} (hx : w.heap[x]? = some (.cells cs T fr)) : mb ≠ x := fun e => h.mp.ne hx e.symm
theorem cells_ne {w : World} {x y : Nat} {cs ds : Array Value} {T U : TypeId} {fr gr : Nat × Nat} (hx : w.heap[x]? = some (.cells cs T fr)) (hy : w.heap[y]? = some (.cells ds U gr)) (hT : T ≠ U) : x ≠ y := fun e => by
  rw [e, hy] at hx
  exact hT (Obj.cells.inj (Option.some.inj hx)).2.1.symm
theorem own_cells_ne {w : World} {base k : Nat} {T : TypeId} {v : Value} {L : List (List Value)} (h : RwOwn k T base w v L) {x : Nat} {cs : Array Value} {U : TypeId} {fr : Nat × Nat} (hx : w.heap[x]? = some (.cells cs U fr)) (hT : T ≠ U) : v.ownBlock ≠ some x := own_ne' h.1 hx hT
/-- The program's tree stays where the document's turns. -/
theorem two_ct {w w' : World} {base b mb a : Nat} {M : List CNd} {v : Value} {L : List TNd} (h : CtAt w base b mb M) (k : TreeAt w base a v L) (hk : Kps (fun j => j ≠ a ∧ v.ownBlock ≠ some j) w w') : CtAt w' base b mb M := by
  refine h.kps hk ⟨cells_ne h.box k.box (by decide), own_cells_ne k.row h.box (by decide)⟩ ⟨h.mapF k.box, fun e => ?_⟩ fun c hc => ?_
  · exact own_nemap h.mp k.row.1 e
  · obtain ⟨i, hi⟩ := h.at_ hc
    refine ⟨⟨cells_ne (h.node i c hi) k.box (by decide), own_cells_ne k.row (h.node i c hi) (by decide)⟩, fun g hg => ⟨fun e => ?_, fun e => ?_⟩⟩
    · exact own_cells_ne (h.kid i c hi) k.box (by decide) (by rw [hg, e])
    · rcases own_unlike (h.kid i c hi).1 k.row.1 (by decide) with e2 | e2
      · rw [e2] at hg; cases hg
      · exact e2 (by rw [hg, e])
/-- The document's tree stays where the program's turns. -/
theorem two_rt {w w' : World} {base b mb a : Nat} {M : List CNd} {v : Value} {L : List TNd} (h : CtAt w base b mb M) (k : TreeAt w base a v L) (hk : Kps (CF mb M) w w') : TreeAt w' base a v L :=
  k.kps hk (h.rowF k.box (by decide) (by decide)) (h.ownF k.row.1 (by decide) (by decide))
theorem kps_base {w w' : World} {base : Nat} {F : Nat → Prop} (hk : Kps F w w') (hF : ∀ j, j < base → F j) (hb : base ≤ w.heap.size) : Below base w w' := ⟨hk.os, hk.tape, hk.output, hk.size, fun j hj => hk.block j (by omega) (hF j hj)⟩
theorem two_cadd (E : Nat → Addr) (w : World) (base b mb a : Nat) (L : List TNd) (hd : THd) (h : TwoM base b mb a L L w) (ht : TrL L) (hh : HdOk hd) (hk : KTab w) (hE : CE w E) (hbs : base ≤ w.heap.size) :
    Calls Tryz.prog 9 #[(.pointer (some ⟨b, 0, none⟩)), .agg (hdL hd).toArray] w fun e w' => e = .returned (errV E (addE L hd - 100)) ∧ TwoM base b mb a (addT L hd) L w' ∧ Below base w w' := by
  obtain ⟨M, v, rfl, h1, h2⟩ := h
  refine (ctadd_any E w base b mb M hd h1 ht hh hk hE hbs).mono ?_
  rintro e w' ⟨rfl, hn, hy⟩
  by_cases h0 : addE (ndM M) hd = 0
  · obtain ⟨M', q1, q2, q3⟩ := hy h0
    refine ⟨rfl, ⟨M', v, ?_, q2, two_rt h1 h2 q3⟩, kps_base q3 (fun j hj => h1.oldF hj) hbs⟩
    rw [q1]
    unfold addT
    rw [if_pos h0]
  · have hb := hn h0
    refine ⟨rfl, ⟨M, v, ?_, h1.below hb, h2.below hb⟩, hb.mono hbs⟩
    unfold addT
    rw [if_neg h0]
theorem two_radd (w : World) (base b mb a : Nat) (L1 L : List TNd) (hd : THd) (h : TwoM base b mb a L1 L w) (ho : ∀ x ∈ L, NdOk x) (hn : L.length ≤ 4096) (hh : HdOk hd) (hbs : base ≤ w.heap.size) (hab : base ≤ a) :
    Calls Tryz.prog 10 #[(.pointer (some ⟨a, 0, none⟩)), .agg (hdL hd).toArray] w fun e w' => e = .returned (.int .i64 (addE L hd : Int)) ∧ TwoM base b mb a L1 (addT L hd) w' ∧ Below base w w' := by
  obtain ⟨M, v, rfl, h1, h2⟩ := h
  refine (rtadd_any w base a v L hd h2 ho hn hh hbs).mono ?_
  rintro e w' ⟨rfl, hn2, hy⟩
  by_cases h0 : addE L hd = 0
  · obtain ⟨v', q1, q2⟩ := hy h0
    refine ⟨rfl, ⟨M, v', rfl, two_ct h1 h2 q2, ?_⟩, kps_base q2 (fun j hj => ⟨by omega, fun e => by have := (h2.row.1.lt _ e).1; omega⟩) hbs⟩
    unfold addT
    rw [if_pos h0]
    exact q1
  · have hb := hn2 h0
    refine ⟨rfl, ⟨M, v, rfl, h1.below hb, ?_⟩, hb.mono hbs⟩
    unfold addT
    rw [if_neg h0]
    exact h2.below hb
theorem addE_cases (L : List TNd) (hd : THd) : addE L hd = 0 ∨ addE L hd = 109 ∨ addE L hd = 110 ∨ addE L hd = 121 := by
  unfold addE
  split
  · exact .inr (.inl rfl)
  split
  · exact .inr (.inr (.inl rfl))
  split
  · exact .inr (.inr (.inr rfl))
  · exact .inl rfl
theorem add_num (L : List TNd) (hd : THd) : numE (addE L hd - 100) = (addE L hd : Int) ∧ addE L hd - 100 ≤ 25 := by
  rcases addE_cases L hd with e | e | e | e <;> rw [e] <;> exact ⟨rfl, by decide⟩
/-- The two answers are one error. -/
theorem two_is (E : Nat → Addr) (L : List TNd) (hd : THd) (w : World) (hE : Errs w E) : Calls Tryz.prog 8 #[errV E (addE L hd - 100), .int .i64 (addE L hd : Int)] w fun e w' => e = .returned (.bool true) ∧ Below w.heap.size w w' :=
  is_any E (addE L hd - 100) (addE L hd : Int) true (by rw [(add_num L hd).1]; simp) w hE (add_num L hd).2
theorem Errs.ce {w : World} {E : Nat → Addr} (h : Errs w E) : CE w E := ⟨(h.1 8 (by omega)).1, (h.1 9 (by omega)).1, (h.1 20 (by omega)).1⟩
end Go.Proofs.YtbgagaaoldjhnaaGreatDoor.Sha
