/-
  digest's Writer.Write of no bytes leaves what was taken as it is. Conditions: the Writer stands as it should; fewer than 2^60 bytes were taken.
-/
import Derived.LoopN
import Derived.Test.YthgcpelabiigpaaDoorShaWrite
namespace Go.Proofs.YthgcpelabiigpaaDoor.Sha
open Go Go.RowKit

theorem write_nil_end {w wc : World} {B n0 u : Nat} {s' : St} {p l : List UInt8} (h0 : n0 = l.length) (hs : s' = blocks l (n0 / 64)) (hp : p.take (l.length % 64) = l.drop (64 * (l.length / 64))) (_hu : u = n0 % 64)
    (hw : WCells wc B s' p n0) (hg : w.grownBy wc (some B)) : WInv (wc.setCell ⟨B, 72, none⟩ (.int .i64 n0)) B l ∧ w.grownBy (wc.setCell ⟨B, 72, none⟩ (.int .i64 n0)) (some B) := by
  subst h0
  exact ⟨⟨s', p, hw.setSize _, fun _ => hs, hp⟩, grownBy_trans hg (grownBy_setCells B [.int .i64 l.length] 72 wc)⟩

set_option maxHeartbeats 1000000 in
set_option maxRecDepth 100000 in
theorem write_none (l : List UInt8) (sp : Option Addr) (cap B : Nat) (w : World) (hlen : l.length ≤ 1152921504606846975) (hinv : WInv w B l) :
    Calls Tryd.prog 26 #[.pointer (some ⟨B, 0, none⟩), .slice sp 0 cap] w fun e w' =>
      e = .returned (.tuple #[]) ∧ WInv w' B l ∧ w.grownBy w' (some B) := by
  obtain ⟨s, p, hc, hs, hp⟩ := hinv
  have c72 := hc.size
  have HC := Lib.hid hc
  have HS := Lib.hid hs
  have HP := Lib.hid hp
  clear hc hs hp
  obtain ⟨n0, hn0⟩ : ∃ n0, n0 = l.length := ⟨_, rfl⟩
  rw [← hn0] at hlen c72
  have HN0 := Lib.hid hn0
  clear hn0
  go_enter Tryd.func26, Tryd.ntmps26
  go_upto_if 10 with (fail)
  go_cut [] (fun wc => ∃ s', WCells wc B s' p n0 ∧ s' = blocks l (n0 / 64) ∧ w.grownBy wc (some B))
  case first =>
    by_cases h0 : n0 = 0
    · have hz : ((n0 : Int) == 0) = true := by rw [beq_iff_eq]; omega
      clear h0
      go_wp2_with fail
      refine (start_any _).mono ?_
      rintro e w1 ⟨rfl, hb1⟩
      have HC1 : Hid (WCells w1 B s p n0) := by rw [HN0.out]; exact HC.out.kept hb1
      have HB1 := Lib.hid hb1
      clear hb1 c72
      go_wp2_with ((with_reducible show wpList _ _ _ _ _ _); refine wpList_store_mid rfl 46 (.tmp 14) (.tmp 12) rfl B 0 start.cells.toArray rfl rfl HC1.out.there (by kernel_rfl) (by kernel_rfl) ?_; go_frame)
      go_meet
      refine ⟨start, HC1.out.words start, ?_, grownBy_trans (grownBy_of_below HB1.out _) (grownBy_setCells B _ 0 w1)⟩
      have : n0 / 64 = 0 := by have := beq_iff_eq.1 hz; omega
      rw [this]
      rfl
    · have hz : ((n0 : Int) == 0) = false := by rw [beq_eq_false_iff_ne]; omega
      go_wp2_with fail
      go_meet
      refine ⟨s, by rw [HN0.out]; exact HC.out, ?_, grownBy_refl _ _⟩
      rw [HN0.out]
      exact HS.out (fun e => h0 (by rw [HN0.out, e]; rfl))
  case rest =>
    obtain ⟨s', hc, hs', hg⟩ := hcut
    obtain ⟨u, hu⟩ : ∃ u, u = n0 % 64 := ⟨_, rfl⟩
    have hmod : (n0 : Int).tmod 64 = (u : Int) := by rw [Int.tmod_eq_emod_of_nonneg (by omega)]; omega
    have hu64 : u < 64 := by omega
    have c72' := hc.size
    have z72 := hc.frozen 72
    have HE := Lib.hid (write_nil_end HN0.out hs' HP.out hu hc hg)
    clear hc hs' hg hu c72
    go_upto_if 30 with (fail)
    clear c72' z72
    by_cases h0 : u = 0
    · have hz : ¬ (0 : Int) < u := by omega
      clear h0
      go_wp2_with fail
      refine wp_loop_rounds 1 ?_
      rw [rounds_succ]
      go_wp2_with ((with_reducible show wpList _ _ _ _ _ _); refine wpList_copy_nothing rfl (.tmp 67) (.tmp 68) 22 22 rfl 5 Tryd.underlying22 (by kernel_rfl) (some ⟨B, 8, none⟩) sp 64 64 0 cap rfl rfl (Nat.zero_min _) ?_; go_frame)
      go_end0
      exact ⟨rfl, HE.out⟩
    · have hz : (0 : Int) < u := by omega
      clear h0
      go_wp2_with ((with_reducible show wpList _ _ _ _ _ _); first | (refine wpList_slice_arr rfl 47 (.tmp 33) (.tmp 34) rfl 5 64 Tryd.underlying47 (by kernel_rfl) ⟨B, 8, none⟩ u rfl rfl hu64 ?_; rw [Addr.add_mid]; go_frame) | (refine wpList_copy_nothing rfl (.tmp 35) (.tmp 36) 22 22 rfl 5 Tryd.underlying22 (by kernel_rfl) (some ⟨B, 8 + u, none⟩) sp (64 - u) (64 - u) 0 cap rfl rfl (Nat.zero_min _) ?_; go_frame))
      refine bodyPost_ret (results_none rfl _ _ _) rfl ?_
      exact ⟨rfl, HE.out⟩
end Go.Proofs.YthgcpelabiigpaaDoor.Sha
