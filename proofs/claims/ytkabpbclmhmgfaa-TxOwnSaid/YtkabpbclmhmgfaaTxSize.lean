/-
  Package tx tells how many bytes a transaction has, and how long its longest key is. Nothing that was there turns. Condition: a transaction of a few inputs and outputs that lies in memory.
-/
import Derived.Test.YtkabpbclmhmgfaaTxBox
namespace Go.Proofs.Ytkabpbclmhmgfaa.Sha
open Go Go.RowKit

def SzInv (n : Nat) (A : Nat) (t : TTx) (w1 : World) (vs vi : Value) (wr : World) : Prop :=
  ∃ k s : Nat, k ≤ n ∧ vi = .int .i64 k ∧ s = A + (insB (t.ins.take k)).length ∧ vs = .int .i64 s ∧ Below w1.heap.size w1 wr
set_option maxHeartbeats 1000000 in
set_option maxRecDepth 100000 in
theorem size_all : SizeC := by
  intro t v w h1 hs
  have h1' := h1
  obtain ⟨ht0, iv, ov, rfl, hti, hto⟩ := h1
  obtain ⟨si, ci, rfl, hci, hti⟩ := hti
  obtain ⟨so, co, rfl, hco, hto⟩ := hto
  have HTI := Lib.hid hti
  have HTO := Lib.hid hto
  obtain ⟨ni, hn1⟩ : ∃ ni, ni = t.ins.length := ⟨_, rfl⟩
  obtain ⟨no, hn2⟩ : ∃ no, no = t.outs.length := ⟨_, rfl⟩
  obtain ⟨vt, hvt⟩ : ∃ vt, vt = t.ver := ⟨_, rfl⟩
  obtain ⟨tt, htt⟩ : ∃ tt, tt = t.time := ⟨_, rfl⟩
  have NI := Lib.hid hn1
  have NO := Lib.hid hn2
  have VT := Lib.hid hvt
  have TT := Lib.hid htt
  have TS := Lib.hid hs
  have bni : ni ≤ 1000 := by rw [hn1]; exact hs.2.1
  have bno : no ≤ 1000 := by rw [hn2]; exact hs.2.2.1
  simp only [txL, ← hn1, ← hn2, ← hvt, ← htt] at h1' ⊢
  have H1 := Lib.hid h1'
  clear hn1 hn2 hci hco hvt htt ht0 hti hto h1' hs
  
  go_enter Try.func9, Try.ntmps9
  go_upto_region 1 with fail
  have F := Lib.hid (heap_alloc_new w (.cells [nV vt, .slice si ni ci, .slice so no co, nV tt].toArray 26 (0, 0)))
  have B0 := Lib.hid ((Below.refl w.heap.size w).alloc (Nat.le_refl _) (.cells [nV vt, .slice si ni ci, .slice so no co, nV tt].toArray 26 (0, 0)))
  generalize hw1 : World.alloc _ _ = w1
  have e1 : w.alloc (.cells [nV vt, .slice si ni ci, .slice so no co, nV tt].toArray 26 (0, 0)) = w1 := hw1
  rw [e1] at F B0
  clear hw1 e1
  have BOX : Hid (∀ w', Below w1.heap.size w1 w' → ∀ j v, [nV vt, .slice si ni ci, .slice so no co, nV tt][j]? = some v → w'.cell? ⟨w.heap.size, j, none⟩ = some v) := fun w' hw' j v hj => by
    rw [cell_of_row _ _ _ _ _ _ (row_below F.out hw'), List.getElem?_toArray]
    exact hj
  obtain ⟨li, hli⟩ : ∃ li, li = lenN ni := ⟨_, rfl⟩
  obtain ⟨lo, hlo⟩ : ∃ lo, lo = lenN no := ⟨_, rfl⟩
  have bli : li ≤ 9 := by have := lenN_bd ni; omega
  have blo : lo ≤ 9 := by have := lenN_bd no; omega
  have LI := Lib.hid hli
  have LO := Lib.hid hlo
  have CI : Hid (∀ w, Calls Try.prog 19 #[.int .u64 (ni : Int)] w fun e w' => e = .returned (.int .i64 (li : Int)) ∧ w' = w) := fun w => by rw [LI.out]; exact same_of (len_c ni w)
  have CO : Hid (∀ w, Calls Try.prog 19 #[.int .u64 (no : Int)] w fun e w' => e = .returned (.int .i64 (lo : Int)) ∧ w' = w) := fun w => by rw [LO.out]; exact same_of (len_c no w)
  have c1 : w1.cell? ⟨w.heap.size, 1, none⟩ = some (.slice si ni ci) := BOX.out w1 (Below.refl _ _) 1 _ rfl
  have c2 : w1.cell? ⟨w.heap.size, 2, none⟩ = some (.slice so no co) := BOX.out w1 (Below.refl _ _) 2 _ rfl
  clear hli hlo
  have u1 := @u64_stays (ni : Int) (by omega)
  have u2 := @u64_stays (no : Int) (by omega)
  have u3 := @i64_stays (8 + (li : Int)) (by omega)
  have u4 := @i64_stays (8 + (li : Int) + (lo : Int)) (by omega)
  go_quiet ((first | (go_at_call 19; with_reducible exact Calls.quiet_of_same (CI.out _)) | (go_at_call 19; with_reducible exact Calls.quiet_of_same (CO.out _))))
  clear u1 u2 u3 u4
  go_wp2_with fail
  obtain ⟨A, hA⟩ : ∃ A, A = 8 + li + lo := ⟨_, rfl⟩
  have HA := Lib.hid hA
  have hA2 : (8 : Int) + (li : Int) + (lo : Int) = (A : Int) := by omega
  rw [hA2]
  have bA : A ≤ 26 := by omega
  clear hA hA2 c1 c2 bli blo
  go_loopw [3, 21] (fun vs vi wr => SzInv ni A t w1 vs vi wr) (fun _ i _ => ni - (intOf i).toNat)
  case atStart => exact ⟨0, A, by omega, rfl, by simp [insB], rfl, below_drewN (Below.refl _ _) _⟩
  case round =>
    obtain ⟨k, s, hk, rfl, hs, rfl, B⟩ := hrel
    have B := Lib.hid B
    have HSm := Lib.hid hs
    clear hs
    by_cases hlt : k < ni
    · have hkx : k < t.ins.length := by have := NI.out; omega
      obtain ⟨b1, o1, hs1, he1⟩ := HTI.out (by omega)
      have g1 := he1 k _ (List.getElem?_eq_getElem hkx)
      obtain ⟨x, hx⟩ : ∃ x, x = t.ins[k] := ⟨_, rfl⟩
      rw [← hx] at g1
      have hgx : t.ins[k]? = some x := by rw [hx]; exact List.getElem?_eq_getElem _
      obtain ⟨hx1, kx, hkx2, hr1⟩ := g1
      obtain ⟨sx, cx, hkv⟩ := hkx2.2
      obtain ⟨kl, hkl⟩ : ∃ kl, kl = x.key.length := ⟨_, rfl⟩
      rw [← hkl] at hkv
      subst hkv
      have p0 : 0 ≤ (k : Int) := by omega
      have q0 : (k : Int) < (ni : Int) := by omega
      have bkl : kl ≤ 100000 := by rw [hkl]; exact TS.out.2.2.2 x (List.mem_of_getElem? hgx)
      have R1 := Lib.hid (range_below (range_below hr1 B0.out) B.out)
      have KW := Lib.hid ((hkx2.1.below B0.out).below B.out)
      have GX := Lib.hid hgx
      have KL := Lib.hid hkl
      have XOK := Lib.hid hx1
      have ONE := Lib.hid (in_one x (.slice sx kl cx) rfl)
      have LX : Hid ((inL x (.slice sx kl cx)).length = 35) := inL_length x _ hx1.1
      have LX' : Hid ((inL x (.slice sx kl cx)).toArray.size = 35) := by show _ = _; rw [List.size_toArray]; exact LX.out
      subst hs1
      clear hx hgx he1 hx1 hkx2 hr1 hkl hkx
      obtain ⟨g5, hg5⟩ : ∃ g5, g5 = wr.heap.size := ⟨_, rfl⟩
      obtain ⟨_, f2, f3, f4⟩ := fill_setup (Below.refl wr.heap.size wr) (List.replicate 32 (bV 0) ++ [nV 0, .slice none 0 0, nV 0]).toArray (inL x (.slice sx kl cx)).toArray 36
      go_upto_region 5 with ((with_reducible show wpList _ _ _ _ _ _); first | (refine wpList_load_mid rfl 36 (.tmp 23) rfl b1 (o1 + k * 35) rfl (inL x (.slice sx kl cx)) _ R1.out Try.underlying36 rfl (by rw [LX.out]; kernel_rfl) ?_; go_frame) | (refine wpList_store_row rfl 36 (.tmp 5) (.tmp 24) rfl wr.heap.size (inL x (.slice sx kl cx)).toArray rfl rfl 36 _ (heap_alloc_new _ _) (by rw [LX'.out]; kernel_rfl) (by rw [LX'.out]; rfl) ONE.out ?_; go_frame))
      rw [← hg5] at f2 f3 f4 ⊢
      generalize hw5 : World.setRow _ _ _ = w5
      have e5 : World.setRow (wr.alloc (.cells (List.replicate 32 (bV 0) ++ [nV 0, .slice none 0 0, nV 0]).toArray 36)) g5 (inL x (.slice sx kl cx)).toArray = w5 := hw5
      rw [e5] at f2 f4
      rw [hg5] at f4
      have F5 := Lib.hid f2
      have N5 := Lib.hid f4
      have B5 := Lib.hid (B.out.trans (f4.mono B.out.size))
      have G5 := Lib.hid hg5
      have IN5 : Hid (∀ (j : Nat) (u : Value), (inL x (.slice sx kl cx))[j]? = some u → w5.cell? ⟨g5, j, none⟩ = some u) := fun j u hj => by
        rw [cell_of_row _ _ _ _ _ _ F5.out, List.getElem?_toArray]
        exact hj
      have X33 : Hid ((inL x (.slice sx kl cx))[33]? = some (.slice sx kl cx)) := by show _ = _; rw [inL, List.getElem?_append_right (by simp [ptL, XOK.out.1])]; simp [ptL, XOK.out.1]
      clear f2 f3 f4 hg5 hw5 e5

      have c5 : w5.cell? ⟨g5, 33, none⟩ = some (.slice sx kl cx) := IN5.out 33 _ X33.out
      obtain ⟨lk, hlk⟩ : ∃ lk, lk = lenN kl := ⟨_, rfl⟩
      have blk : lk ≤ 9 := by have := lenN_bd kl; omega
      have LK := Lib.hid hlk
      have CK : Hid (∀ w, Calls Try.prog 19 #[.int .u64 (kl : Int)] w fun e w' => e = .returned (.int .i64 (lk : Int)) ∧ w' = w) := fun w => by rw [LK.out]; exact same_of (len_c kl w)
      have HI : Hid ((inB x).length = 40 + lk + kl) := by show _ = _; rw [inB_length x XOK.out, LK.out, KL.out]
      have bs : s + 40 + lk + kl ≤ 300000000 := by
        have h1 := ins_part GX.out
        have h2 := TS.out.ins0
        have h3 := HI.out
        have h4 := HSm.out
        omega
      clear hlk
      have u1 := @u64_stays (kl : Int) (by omega)
      have u2 := @i64_stays (40 + (lk : Int)) (by omega)
      have u3 := @i64_stays (40 + (lk : Int) + (kl : Int)) (by omega)
      have u4 := @i64_stays ((s : Int) + (40 + (lk : Int) + (kl : Int))) (by omega)
      go_quiet ((go_at_call 19; with_reducible exact Calls.quiet_of_same (CK.out _)))
      clear u1 u2 u3 u4 c5
      go_wp2_with fail
      go_roundw
      case rel =>
        refine ⟨k + 1, s + (40 + lk + kl), by omega, by go_num, ?_, by go_num, below_drewN B5.out _⟩
        rw [ins_snoc GX.out, List.length_append, HI.out, HSm.out]
        omega
      case measure => simp [intOf]; omega
    · have hkn : k = ni := by omega
      have hge : ¬ (k : Int) < (ni : Int) := by omega
      have c2 : wr.cell? ⟨w.heap.size, 2, none⟩ = some (.slice so no co) := BOX.out wr B.out 2 _ rfl
      have hs2 : s = A + (insB t.ins).length := by rw [HSm.out, hkn, NI.out, List.take_length]
      have hs3 := TS.out.bytes
      rw [← NI.out, ← NO.out, ← LI.out, ← LO.out] at hs3
      have HR : Hid ((txB t).length = s + 40 * no) := by show _ = _; have := HA.out; omega
      have bs : s ≤ 300000000 := by have := TS.out.ins0; omega
      clear hkn hs2 hs3
      go_wp2_with fail
      go_ret
      exact ⟨ret_int (by rw [HR.out]; omega), B0.out.trans (B.out.mono B0.out.size)⟩
end Go.Proofs.Ytkabpbclmhmgfaa.Sha
