/-
  digest's Writer.Write takes bytes behind those that came before: what the whole blocks came to, what is left over and how much was written stand as they should; nothing else that was there turns. Conditions: the bytes lie where the slice says, in another block of memory than the Writer; the table is there; all bytes together are fewer than 2^60.
-/
import Derived.Deep.DeepCutAuto
import Derived.StillTailTactics
import Derived.Test.YthgcpelabiigpaaDoorShaBytes
import Derived.Test.YthgcpelabiigpaaDoorShaLib
namespace Go.Proofs.YthgcpelabiigpaaDoor.Sha
open Go Go.RowKit

/-- A Writer's cells: eight words, 64 bytes, how much was written. -/
def WCells (w : World) (B : Nat) (s : St) (p : List UInt8) (n : Nat) : Prop :=
  p.length = 64 ∧ w.heap[B]? = some (.cells (s.cells ++ (p.map bV ++ [Value.int .i64 n])).toArray 49 (0, 0))
/-- A Writer that took the bytes l. -/
def WInv (w : World) (B : Nat) (l : List UInt8) : Prop :=
  ∃ s p, WCells w B s p l.length ∧ (l ≠ [] → s = blocks l (l.length / 64)) ∧ p.take (l.length % 64) = l.drop (64 * (l.length / 64))

theorem WCells.size {w : World} {B : Nat} {s : St} {p : List UInt8} {n : Nat} (h : WCells w B s p n) : w.cell? ⟨B, 72, none⟩ = some (.int .i64 n) := by
  rw [cell_of_row _ _ _ _ _ _ h.2, List.getElem?_toArray, List.getElem?_append_right (by rw [St.cells_length]; omega), List.getElem?_append_right (by rw [St.cells_length, List.length_map, h.1]; omega), St.cells_length, List.length_map, h.1]
  rfl
theorem WCells.byte {w : World} {B : Nat} {s : St} {p : List UInt8} {n : Nat} (h : WCells w B s p n) (j : Nat) (hj : j < 64) : w.cell? ⟨B, 8 + j, none⟩ = some (.int .u8 (bv (p.getD j 0))) := by
  rw [cell_of_row _ _ _ _ _ _ h.2, List.getElem?_toArray, List.getElem?_append_right (by rw [St.cells_length]; omega), St.cells_length, List.getElem?_append_left (by rw [List.length_map, h.1]; omega), List.getElem?_map, show 8 + j - 8 = j by omega,
    List.getElem?_eq_getElem (by rw [h.1]; exact hj)]
  simp [bV, List.getD, List.getElem?_eq_getElem (show j < p.length by rw [h.1]; exact hj)]
theorem WCells.frozen {w : World} {B : Nat} {s : St} {p : List UInt8} {n : Nat} (h : WCells w B s p n) (j : Nat) : w.frozen? ⟨B, j, none⟩ = false := frozen_of_row _ _ _ _ _ h.2
theorem WCells.there {w : World} {B : Nat} {s : St} {p : List UInt8} {n : Nat} (h : WCells w B s p n) : w.there B 0 8 := fun j hj =>
  ⟨by rw [cell_of_row _ _ _ _ _ _ h.2, List.getElem?_toArray, List.getElem?_append_left (by rw [St.cells_length]; omega), List.getElem?_eq_getElem (by rw [St.cells_length]; omega)]; rfl, h.frozen _⟩
theorem WCells.setSize {w : World} {B : Nat} {s : St} {p : List UInt8} {n : Nat} (h : WCells w B s p n) (m : Nat) : WCells (w.setCell ⟨B, 72, none⟩ (.int .i64 m)) B s p m := by
  refine ⟨h.1, ?_⟩
  rw [heap_setCell_same _ _ _ _ _ _ h.2, List.setIfInBounds_toArray, set_mid s.cells 8 64 _ _ (St.cells_length s), set_mid (p.map bV) 64 0 _ _ (by rw [List.length_map, h.1])]
  rfl
theorem WCells.words {w : World} {B : Nat} {s : St} {p : List UInt8} {n : Nat} (h : WCells w B s p n) (s' : St) : WCells (w.setCells B 0 s'.cells) B s' p n := by
  refine ⟨h.1, ?_⟩
  rw [setCells_heap B _ _ 0 _ _ h.2 (by simp [St.cells_length])]
  simp [splice, St.cells_length]
  rfl
theorem WCells.kept {w w' : World} {B : Nat} {s : St} {p : List UInt8} {n : Nat} (h : WCells w B s p n) (hb : Below w.heap.size w w') : WCells w' B s p n :=
  ⟨h.1, by rw [hb.block B (Array.getElem?_eq_some_iff.1 h.2).1]; exact h.2⟩
theorem splice_part (s : St) (p : List UInt8) (x : Value) (o : Nat) (cs : List UInt8) (hp : p.length = 64) (h : o + cs.length ≤ 64) :
    splice (s.cells ++ (p.map bV ++ [x])) (8 + o) (cs.map bV) = s.cells ++ ((splice p o cs).map bV ++ [x]) := by
  have e1 : (s.cells ++ (p.map bV ++ [x])).take (8 + o) = s.cells ++ (p.take o).map bV := by
    rw [List.take_append, List.take_of_length_le (by rw [St.cells_length]; omega), St.cells_length, show 8 + o - 8 = o by omega, List.take_append, List.length_map, hp, show o - 64 = 0 by omega]
    simp
  have e2 : (s.cells ++ (p.map bV ++ [x])).drop (8 + o + (cs.map bV).length) = (p.drop (o + cs.length)).map bV ++ [x] := by
    rw [List.length_map, List.drop_append, List.drop_of_length_le (by rw [St.cells_length]; omega), St.cells_length, show 8 + o + cs.length - 8 = o + cs.length by omega, List.drop_append, List.length_map, hp, show o + cs.length - 64 = 0 by omega]
    simp
  unfold splice
  rw [e1, e2]
  simp
theorem splice_take {p cs : List UInt8} {o : Nat} (h : o + cs.length ≤ p.length) : (splice p o cs).take (o + cs.length) = p.take o ++ cs := by
  have hl : (p.take o).length = o := by rw [List.length_take]; omega
  unfold splice
  rw [← List.append_assoc, List.take_append_of_le_length (by rw [List.length_append, hl]; omega), List.take_of_length_le (by rw [List.length_append, hl]; omega)]
theorem winv_short {w : World} {B : Nat} {s : St} {p l bs : List UInt8} (hs : s = blocks l (l.length / 64)) (hp : p.take (l.length % 64) = l.drop (64 * (l.length / 64))) (h : l.length % 64 + bs.length < 64)
    (hw : WCells w B s (splice p (l.length % 64) bs) (l.length + bs.length)) (h64 : p.length = 64) : WInv w B (l ++ bs) := by
  have e1 : (l ++ bs).length / 64 = l.length / 64 := by rw [List.length_append]; omega
  have e2 : (l ++ bs).length % 64 = l.length % 64 + bs.length := by rw [List.length_append]; omega
  refine ⟨s, _, by rw [List.length_append]; exact hw, fun _ => ?_, ?_⟩
  · rw [e1, blocks_append l bs _ (by omega)]; exact hs
  · rw [e2, e1, splice_take (by omega), hp, List.drop_append_of_le_length (by omega)]
theorem full_get {p l bs : List UInt8} (hp : p.take (l.length % 64) = l.drop (64 * (l.length / 64))) (h64 : p.length = 64) (h : 64 ≤ l.length % 64 + bs.length) (j : Nat) (hj : j < 64) :
    (splice p (l.length % 64) (bs.take (64 - l.length % 64))).getD j 0 = (l ++ bs).getD (64 * (l.length / 64) + j) 0 := by
  have hl : (bs.take (64 - l.length % 64)).length = 64 - l.length % 64 := by rw [List.length_take]; omega
  have e : splice p (l.length % 64) (bs.take (64 - l.length % 64)) = l.drop (64 * (l.length / 64)) ++ bs.take (64 - l.length % 64) := by
    have e0 := splice_take (p := p) (cs := bs.take (64 - l.length % 64)) (o := l.length % 64) (by rw [hl]; omega)
    rw [hl, List.take_of_length_le (by rw [length_splice _ _ _ (by rw [hl]; omega)]; omega)] at e0
    rw [e0, hp]
  have hd : (l.drop (64 * (l.length / 64))).length = l.length % 64 := by rw [List.length_drop]; omega
  rw [e]
  simp only [List.getD, List.getElem?_append, hd]
  by_cases h1 : j < l.length % 64
  · rw [if_pos h1, if_pos (by omega), List.getElem?_drop]
  · rw [if_neg h1, if_neg (by omega), List.getElem?_take_of_lt (by omega)]
    congr 2
    omega
theorem winv_end {w : World} {B m : Nat} {p L rem : List UInt8} (hm : m = L.length / 64) (hr : rem = L.drop (64 * m)) (h64 : p.length = 64) (hw : WCells w B (blocks L m) (splice p 0 rem) L.length) : WInv w B L := by
  subst hm hr
  have hl : (L.drop (64 * (L.length / 64))).length = L.length % 64 := by rw [List.length_drop]; omega
  refine ⟨_, _, hw, fun _ => rfl, ?_⟩
  have := splice_take (p := p) (cs := L.drop (64 * (L.length / 64))) (o := 0) (by omega)
  rw [Nat.zero_add, hl] at this
  rw [this]
  simp

theorem KTab.kept {w w' : World} {B : Nat} (h : KTab w) (hg : w.grownBy w' (some B)) (hB : B ≠ 0) : KTab w' := fun t ht =>
  hg.cell (h t ht) (fun e => hB (Option.some.inj e).symm)
/-- What stands when c bytes of bs are worked in, at a block's end. -/
def WrInv (l bs : List UInt8) (bb off cap B N : Nat) (w : World) (v : Value) (wr : World) : Prop :=
  ∃ c ad p', c ≤ bs.length ∧ (l.length + c) % 64 = 0 ∧ v = .slice (some ad) (bs.length - c) (cap - c) ∧ (c < bs.length → ad = ⟨bb, off + c, none⟩) ∧ WCells wr B (blocks (l ++ bs) ((l.length + c) / 64)) p' N ∧ w.grownBy wr (some B)
theorem WCells.mk' {w' : World} {B : Nat} {s' : St} {p' : List UInt8} {n : Nat} (hp : p'.length = 64)
    (h : w'.heap[B]? = some (.cells (s'.cells ++ (p'.map bV ++ [Value.int .i64 n])).toArray 49 (0, 0))) : WCells w' B s' p' n := ⟨hp, h⟩

/-- Behind the copy into what is left over. -/
theorem part_cells {w : World} {B u N : Nat} {s : St} {p X : List UInt8} (hp : p.length = 64) (hl : u + X.length ≤ 64)
    (h : w.heap[B]? = some (.cells (splice (s.cells ++ (p.map bV ++ [Value.int .i64 N])) (8 + u) (X.map bV)).toArray 49 (0, 0))) : WCells w B s (splice p u X) N := by
  refine ⟨by rw [length_splice _ _ _ (by omega)]; exact hp, ?_⟩
  rw [h, splice_part s p _ u X hp hl]
theorem short_end {w : World} {B u n0 n1 N : Nat} {s : St} {p l bs X : List UInt8} (h0 : n0 = l.length) (h1 : n1 = bs.length) (hu : u = n0 % 64) (hN : N = n0 + n1) (hX : X = bs.take (64 - u)) (hsh : u + n1 < 64)
    (hs : s = blocks l (n0 / 64)) (hp : p.take (l.length % 64) = l.drop (64 * (l.length / 64))) (h64 : p.length = 64) (hw : WCells w B s (splice p u X) N) : WInv w B (l ++ bs) := by
  subst h0 h1 hu hN
  rw [List.take_of_length_le (by omega)] at hX
  subst hX
  exact winv_short hs hp hsh hw h64

theorem full_step {u n0 n1 tk : Nat} {s : St} {p l bs X : List UInt8} (h0 : n0 = l.length) (h1 : n1 = bs.length) (hu : u = n0 % 64) (hX : X = bs.take (64 - u)) (htk : tk = 64 - u) (hge : 64 ≤ u + n1) (hu0 : 0 < u)
    (hs : s = blocks l (n0 / 64)) (hp : p.take (l.length % 64) = l.drop (64 * (l.length / 64))) (h64 : p.length = 64) :
    compress s (fun j => (splice p u X).getD j 0) = blocks (l ++ bs) ((l.length + tk) / 64) := by
  subst h0 h1 hu hX htk hs
  rw [show (l.length + (64 - l.length % 64)) / 64 = l.length / 64 + 1 by omega, ← blocks_append l bs _ (by omega)]
  exact blocks_next _ _ _ (fun j hj => full_get hp h64 hge j hj)
theorem grownBy_of_drew {a w w' : World} {row : Option Nat} (h : a.grownBy w row) (k : w.drew.grownBy w' row) : a.grownBy w' row := grownBy_trans h ⟨k.os, k.tape, k.output, k.size, k.block⟩

def lenOf : Value → Nat
  | .slice _ n _ => n
  | _ => 0
theorem round_src {l bs : List UInt8} {c m j : Nat} (hm : m = (l.length + c) / 64) (h64 : (l.length + c) % 64 = 0) (_h : c + j < bs.length) : (l ++ bs).getD (64 * m + j) 0 = bs.getD (c + j) 0 := by
  simp only [List.getD]
  rw [List.getElem?_append_right (by omega)]
  congr 2
  omega

set_option maxHeartbeats 1000000 in
set_option maxRecDepth 100000 in
theorem write_some (l bs : List UInt8) (bb off cap B : Nat) (w : World) (hk : KTab w) (hB0 : B ≠ 0) (hbb : bb ≠ B) (hcap : bs.length ≤ cap) (hlen : l.length + bs.length ≤ 1152921504606846975)
    (hinv : WInv w B l) (hsrc : ∀ j, j < bs.length → w.cell? ⟨bb, off + j, none⟩ = some (.int .u8 (bv (bs.getD j 0)))) :
    Calls Tryd.prog 26 #[.pointer (some ⟨B, 0, none⟩), .slice (some ⟨bb, off, none⟩) bs.length cap] w fun e w' =>
      e = .returned (.tuple #[]) ∧ WInv w' B (l ++ bs) ∧ w.grownBy w' (some B) := by
  obtain ⟨s, p, hc, hs, hp⟩ := hinv
  have c72 := hc.size
  have HK := Lib.hid hk
  have HC := Lib.hid hc
  have HS := Lib.hid hs
  have HP := Lib.hid hp
  have HSRC := Lib.hid hsrc
  clear hk hc hs hp hsrc
  obtain ⟨n0, hn0⟩ : ∃ n0, n0 = l.length := ⟨_, rfl⟩
  obtain ⟨n1, hn1⟩ : ∃ n1, n1 = bs.length := ⟨_, rfl⟩
  rw [← hn0] at hlen c72
  rw [← hn1] at hlen hcap ⊢
  have HN0 := Lib.hid hn0
  have HN1 := Lib.hid hn1
  clear hn0 hn1
  go_enter Tryd.func26, Tryd.ntmps26
  go_upto_if 10 with (fail)
  go_cut [] (fun wc => ∃ s', WCells wc B s' p n0 ∧ s' = blocks l (n0 / 64) ∧ w.grownBy wc (some B))
  case first =>
    by_cases h0 : n0 = 0
    · have hz : ((n0 : Int) == 0) = true := by rw [beq_iff_eq]; omega
      clear h0
      go_wp2_with fail
      refine (start_any _).mono ?_
      rintro e w1 ⟨rfl, hb1⟩
      have HC1 : Hid (WCells w1 B s p n0) := by rw [HN0.out]; exact HC.out.kept hb1
      have HB1 := Lib.hid hb1
      clear hb1 c72
      go_wp2_with (refine wpList_store_mid rfl 46 (.tmp 14) (.tmp 12) rfl B 0 start.cells.toArray rfl rfl HC1.out.there (by kernel_rfl) (by kernel_rfl) ?_; go_frame)
      go_meet
      refine ⟨start, HC1.out.words start, ?_, grownBy_trans (grownBy_of_below HB1.out _) (grownBy_setCells B _ 0 w1)⟩
      have : n0 / 64 = 0 := by have := beq_iff_eq.1 hz; omega
      rw [this]
      rfl
    · have hz : ((n0 : Int) == 0) = false := by rw [beq_eq_false_iff_ne]; omega
      go_wp2_with fail
      go_meet
      refine ⟨s, by rw [HN0.out]; exact HC.out, ?_, grownBy_refl _ _⟩
      rw [HN0.out]
      exact HS.out (fun e => h0 (by rw [HN0.out, e]; rfl))
  case rest =>
    obtain ⟨s', hc, hs', hg⟩ := hcut
    obtain ⟨u, hu⟩ : ∃ u, u = n0 % 64 := ⟨_, rfl⟩
    obtain ⟨N, hN⟩ : ∃ N, N = n0 + n1 := ⟨_, rfl⟩
    have hmod : (n0 : Int).tmod 64 = (u : Int) := by rw [Int.tmod_eq_emod_of_nonneg (by omega)]; omega
    have hsum : (n0 : Int) + (n1 : Int) = (N : Int) := by omega
    have hu64 : u < 64 := by omega
    have c72' := hc.size
    have z72 := hc.frozen 72
    have HC1 := Lib.hid hc
    have HS1 := Lib.hid hs'
    have HG := Lib.hid hg
    have HU := Lib.hid hu
    have HN := Lib.hid hN
    clear hc hs' hg hu hN c72
    go_upto_if 30 with (fail)
    clear c72' z72
    go_cut [1] (fun v wx => WrInv l bs bb off cap B N w v wx)
    case first =>
      have HC2 : Hid (WCells (wc.setCell ⟨B, 72, none⟩ (.int .i64 N)) B s' p N) := HC1.out.setSize N
      have HG2 : Hid (w.grownBy (wc.setCell ⟨B, 72, none⟩ (.int .i64 N)) (some B)) := grownBy_trans HG.out (grownBy_setCells B [.int .i64 N] 72 wc)
      generalize wc.setCell ⟨B, 72, none⟩ (.int .i64 N) = w2 at HC2 HG2 ⊢
      clear HC1 HG hmod hsum
      by_cases h0 : u = 0
      · have hz : ¬ (0 : Int) < u := by omega
        clear h0
        go_wp2_with fail
        go_meet
        have hn0 := HN0.out
        have hn1 := HN1.out
        have hu1 := HU.out
        refine ⟨0, ⟨bb, off, none⟩, p, by omega, by omega, by rw [← hn1]; rfl, fun _ => rfl, ?_, HG2.out⟩
        rw [Nat.add_zero, ← hn0, blocks_append l bs _ (by omega), ← HS1.out]
        exact HC2.out
      · have hz : (0 : Int) < u := by omega
        clear h0
        obtain ⟨tk, htk⟩ : ∃ tk, tk = Nat.min n1 (64 - u) := ⟨_, rfl⟩
        obtain ⟨X, hX⟩ : ∃ X, X = bs.take (64 - u) := ⟨_, rfl⟩
        have hXl : (X.map bV).length = tk := by
          rw [hX, htk, HN1.out, List.length_map, List.length_take, Nat.min_comm]
        have HX := Lib.hid hX
        have HXL := Lib.hid hXl
        have HTK := Lib.hid htk
        have htk1 : tk ≤ n1 := by rw [htk]; exact Nat.min_le_left _ _
        have htk2 : tk ≤ 64 - u := by rw [htk]; exact Nat.min_le_right _ _
        have HSRC2 : Hid (∀ j v, (X.map bV)[j]? = some v → w2.cell? ((⟨bb, off, none⟩ : Addr).add j) = some v) := by
          intro j v hj
          have hj1 : j < (X.map bV).length := (List.getElem?_eq_some_iff.1 hj).1
          have hj2 : j < bs.length := by rw [hXl] at hj1; have := HN1.out; omega
          have hj3 : j < (bs.take (64 - u)).length := by rw [← hX]; rw [List.length_map] at hj1; exact hj1
          rw [Addr.add_mid, HG2.out.cell (HSRC.out j hj2) (fun e => hbb (Option.some.inj e)), ← hj, hX, List.getElem?_map, List.getElem?_eq_getElem hj3]
          simp [bV, List.getD, List.getElem?_eq_getElem hj2]
        have HFIT : Hid (8 + u + (X.map bV).length ≤ (s'.cells ++ (p.map bV ++ [Value.int .i64 N])).length) := by
          show _ ≤ _
          rw [hXl, List.length_append, List.length_append, List.length_map, HC2.out.1, St.cells_length]
          simp
          omega
        clear hX hXl htk
        by_cases hsh : u + n1 < 64
        · go_wp2_with ((with_reducible show wpList _ _ _ _ _ _); first | (refine wpList_slice_arr rfl 47 (.tmp 33) (.tmp 34) rfl 5 64 Tryd.underlying47 (by kernel_rfl) ⟨B, 8, none⟩ u rfl rfl hu64 ?_; rw [Addr.add_mid]; go_frame) | (refine wpList_copy_into rfl (.tmp 35) (.tmp 36) 22 22 rfl 5 Tryd.underlying22 (by kernel_rfl) (some ⟨B, 8 + u, none⟩) (some ⟨bb, off, none⟩) (64 - u) (64 - u) n1 cap rfl rfl B (8 + u) _ 49 HC2.out.2 (X.map bV) (HXL.out.trans HTK.out) (fun _ => ⟨rfl, _, rfl, HSRC2.out⟩) HFIT.out (bV_one' X) ?_; rw [HXL.out]; intro w3 hrow hgrow; go_frame))
          refine bodyPost_ret (results_none rfl _ _ _) rfl ?_
          have hXb : u + X.length ≤ 64 := by have := HXL.out; rw [List.length_map] at this; omega
          exact ⟨rfl, short_end HN0.out HN1.out HU.out HN.out HX.out hsh HS1.out HP.out HC2.out.1 (part_cells HC2.out.1 hXb hrow.out), grownBy_trans HG2.out hgrow.out⟩
        · have htk3 : tk = 64 - u := by
            have e := HTK.out
            rw [e]
            exact Nat.min_eq_right (by omega)
          have hge : ¬ (u : Int) + (tk : Int) < 64 := by omega
          have HTK3 := Lib.hid htk3
          clear hsh htk3
          go_upto_region 7 with ((with_reducible show wpList _ _ _ _ _ _); first | (refine wpList_slice_arr rfl 47 (.tmp 33) (.tmp 34) rfl 5 64 Tryd.underlying47 (by kernel_rfl) ⟨B, 8, none⟩ u rfl rfl hu64 ?_; rw [Addr.add_mid]; go_frame) | (refine wpList_copy_into rfl (.tmp 35) (.tmp 36) 22 22 rfl 5 Tryd.underlying22 (by kernel_rfl) (some ⟨B, 8 + u, none⟩) (some ⟨bb, off, none⟩) (64 - u) (64 - u) n1 cap rfl rfl B (8 + u) _ 49 HC2.out.2 (X.map bV) (HXL.out.trans HTK.out) (fun _ => ⟨rfl, _, rfl, HSRC2.out⟩) HFIT.out (bV_one' X) ?_; rw [HXL.out]; intro w3 hrow hgrow; go_frame))
          have hXb : u + X.length ≤ 64 := by have := HXL.out; rw [List.length_map] at this; omega
          have HC3 := Lib.hid (part_cells HC2.out.1 hXb hrow.out)
          have HG3 := Lib.hid (grownBy_trans HG2.out hgrow.out)
          have hK3 : KTab w3 := HK.out.kept HG3.out hB0
          have HK3 : Hid (KTab w3.drew) := hK3
          clear hK3
          have HC4 : Hid (WCells w3.drew B s' (splice p u X) N) := HC3.out
          clear hrow hgrow
          go_still_tail 7, (by kernel_rfl)
          change wpList _ _ _ _ _ (World.drew _)
          go_wp2_with fail
          refine (mix_any s' (fun j => (splice p u X).getD j 0) B 8 _ B 49 _ w3.drew HK3.out HC4.out.2 (fun j hj => HC4.out.byte j hj)).mono ?_
          rintro e w4 ⟨rfl, hB4, hg4⟩
          have HB4 := Lib.hid hB4
          have HG4 := Lib.hid hg4
          clear hB4 hg4
          go_wp2_with ((with_reducible show wpList _ _ _ _ _ _); refine wpList_slice_lo rfl 22 (.tmp 50) (.tmp 51) rfl 5 Tryd.underlying22 (by kernel_rfl) ⟨bb, off, none⟩ n1 cap tk rfl rfl htk1 ?_; intro ad had; go_frame)
          go_meet
          have e := full_step HN0.out HN1.out HU.out HX.out HTK3.out (by have := HTK3.out; omega) (by omega) HS1.out HP.out HC2.out.1
          have hn0 := HN0.out
          have hn1 := HN1.out
          have hu1 := HU.out
          have htk3 := HTK3.out
          refine ⟨tk, ad, splice p u X, by omega, by omega, by rw [← hn1], fun hlt => ?_, ?_, grownBy_of_drew HG3.out HG4.out⟩
          · rw [had.out (by omega), Addr.add_mid]
          · rw [← e]
            exact WCells.mk' HC3.out.1 HB4.out
    case rest =>
      have HCUT := Lib.hid hcut
      clear hcut HC1 HG HS1 HC HS HP HU hmod hsum hu64
      go_wp2_with fail
      go_loopw [1] (fun v wr => WrInv l bs bb off cap B N w v wr) (fun v _ => lenOf v)
      case atStart => exact HCUT.out
      case round =>
        clear HCUT
        obtain ⟨c, ad, p', hc1, hc2, rfl, hc3, hc4, hc5⟩ := hrel
        obtain ⟨r, hr⟩ : ∃ r, r = bs.length - c := ⟨_, rfl⟩
        obtain ⟨cp, hcp⟩ : ∃ cp, cp = cap - c := ⟨_, rfl⟩
        obtain ⟨m, hm⟩ : ∃ m, m = (l.length + c) / 64 := ⟨_, rfl⟩
        rw [← hr, ← hcp]
        rw [← hm] at hc4
        have hcp' : r ≤ cp := by have := HN1.out; omega
        have HR := Lib.hid hr
        have HCP := Lib.hid hcp
        have HM := Lib.hid hm
        have HC64 := Lib.hid hc2
        have HAD := Lib.hid hc3
        have HC := Lib.hid hc4
        have HG := Lib.hid hc5
        clear hr hcp hm hc2 hc3 hc4 hc5
        by_cases hlt : 64 ≤ r
        · have hcb : c < bs.length := by have := HR.out; omega
          obtain rfl := HAD.out hcb
          have hcp0 : ¬ cp = 0 := by omega
          have hcp64 : (64 : Int) ≤ cp := by omega
          have hlt' : (64 : Int) ≤ r := by omega
          go_wp2_with fail
          go_still_tail 5, (by kernel_rfl)
          change wpList _ _ _ _ _ (World.drew _)
          go_wp2_with fail
          have hK : KTab wr := HK.out.kept HG.out hB0
          have HKr : Hid (KTab wr.drew) := hK
          have HCr : Hid (WCells wr.drew B (blocks (l ++ bs) m) p' N) := HC.out
          have hS : ∀ j, j < 64 → wr.cell? ⟨bb, off + c + j, none⟩ = some (.int .u8 (bv ((l ++ bs).getD (64 * m + j) 0))) := fun j hj => by
            have hr := HR.out
            rw [round_src HM.out HC64.out (by omega), Nat.add_assoc]
            exact HG.out.cell (HSRC.out (c + j) (by omega)) (fun e => hbb (Option.some.inj e))
          have HS : Hid (∀ j, j < 64 → wr.drew.cell? ⟨bb, off + c + j, none⟩ = some (.int .u8 (bv ((l ++ bs).getD (64 * m + j) 0)))) := hS
          clear hK hS
          refine (mix_any (blocks (l ++ bs) m) (fun j => (l ++ bs).getD (64 * m + j) 0) bb (off + c) _ B 49 _ wr.drew HKr.out HCr.out.2 HS.out).mono ?_
          rintro e w4 ⟨rfl, hB4, hg4⟩
          have HB4 := Lib.hid hB4
          have HG4 := Lib.hid hg4
          clear hB4 hg4
          go_wp2_with ((with_reducible show wpList _ _ _ _ _ _); refine wpList_slice_lo rfl 22 (.tmp 62) (.const (.int .i64 64)) rfl 5 Tryd.underlying22 (by kernel_rfl) ⟨bb, off + c, none⟩ r cp 64 rfl rfl hlt ?_; intro ad had; go_frame)
          go_roundw
          case rel =>
            have hr := HR.out
            have hcp := HCP.out
            have hm := HM.out
            have h64 := HC64.out
            refine ⟨c + 64, ad, p', by omega, by omega, by rw [hr, hcp, Nat.sub_sub, Nat.sub_sub], fun hlt2 => ?_, ?_, grownBy_of_drew HG.out HG4.out⟩
            · rw [had.out (by omega), Addr.add_mid, Nat.add_assoc]
            · have e : (l.length + (c + 64)) / 64 = m + 1 := by omega
              rw [e, ← blocks_next (l ++ bs) m _ (fun j _ => rfl)]
              exact WCells.mk' HC.out.1 HB4.out
          case measure => simp [lenOf]; omega
        · have hge : ¬ (64 : Int) ≤ r := by omega
          obtain ⟨X, hX⟩ : ∃ X, X = bs.drop c := ⟨_, rfl⟩
          have hXl : (X.map bV).length = r := by rw [hX, HR.out, List.length_map, List.length_drop]
          have HX := Lib.hid hX
          have HXL := Lib.hid hXl
          have HSRC2 : Hid (0 < (X.map bV).length → ∃ a2, some ad = some a2 ∧ ∀ j v, (X.map bV)[j]? = some v → wr.cell? (a2.add j) = some v) := by
            intro h0
            have hr := HR.out
            obtain rfl := HAD.out (by omega)
            refine ⟨_, rfl, fun j v hj => ?_⟩
            have hj1 : j < (X.map bV).length := (List.getElem?_eq_some_iff.1 hj).1
            have hj2 : c + j < bs.length := by omega
            rw [Addr.add_mid, Nat.add_assoc, HG.out.cell (HSRC.out (c + j) hj2) (fun e => hbb (Option.some.inj e)), ← hj, hX, List.getElem?_map, List.getElem?_drop, List.getElem?_eq_getElem hj2]
            simp [bV, List.getD, List.getElem?_eq_getElem hj2]
          have HFIT : Hid (8 + (X.map bV).length ≤ ((blocks (l ++ bs) m).cells ++ (p'.map bV ++ [Value.int .i64 N])).length) := by
            show _ ≤ _
            rw [hXl, List.length_append, List.length_append, List.length_map, HC.out.1, St.cells_length]
            simp
            omega
          have HMIN : Hid (r = Nat.min r 64) := (Nat.min_eq_left (by omega)).symm
          clear hX hXl
          go_wp2_with ((with_reducible show wpList _ _ _ _ _ _); refine wpList_copy_into rfl (.tmp 67) (.tmp 68) 22 22 rfl 5 Tryd.underlying22 (by kernel_rfl) (some ⟨B, 8, none⟩) (some ad) 64 64 r cp rfl rfl B 8 _ 49 HC.out.2 (X.map bV) (HXL.out.trans HMIN.out) (fun h => ⟨rfl, HSRC2.out h⟩) HFIT.out (bV_one' X) ?_; rw [HXL.out]; intro w3 hrow hgrow; go_frame)
          go_end0
          have hr := HR.out
          have hm := HM.out
          have h64 := HC64.out
          have hn0 := HN0.out
          have hn1 := HN1.out
          have hN := HN.out
          have hXb : 0 + X.length ≤ 64 := by have := HXL.out; rw [List.length_map] at this; omega
          have hW := part_cells (u := 0) HC.out.1 hXb hrow.out
          have hL : (l ++ bs).length = N := by rw [List.length_append]; omega
          rw [← hL] at hW
          refine ⟨rfl, winv_end (m := m) (by rw [hL]; omega) ?_ HC.out.1 hW, grownBy_trans HG.out hgrow.out⟩
          have e1 : l.drop (64 * m) = [] := List.drop_of_length_le (by omega)
          rw [HX.out, List.drop_append, e1, List.nil_append]
          congr 1
          omega
end Go.Proofs.YthgcpelabiigpaaDoor.Sha
