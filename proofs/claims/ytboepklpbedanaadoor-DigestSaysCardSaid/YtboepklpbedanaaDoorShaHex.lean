/-
  digest.Hex writes a digest's bytes as two digits each; two digests have one text only if they are the same; nothing that was there turns. Condition: a digest of 32 bytes.
-/
import Derived.WalkLawsBesides
import Derived.Laws.BytesString
import Derived.BigRegion
import Derived.Deep.RegionLaw
import Derived.Test.YtboepklpbedanaaDoorShaReg
namespace Go.Proofs.YtboepklpbedanaaDoor.Sha
open Go Go.RowKit

def digits : List UInt8 := [48, 49, 50, 51, 52, 53, 54, 55, 56, 57, 97, 98, 99, 100, 101, 102]
def digit (i : Nat) : UInt8 := digits.getD i 0
def hexB (x : UInt8) : List UInt8 := [digit (x.toNat / 16), digit (x.toNat % 16)]
def hexL (l : List UInt8) : List UInt8 := l.flatMap hexB
theorem hexL_length : ∀ l : List UInt8, (hexL l).length = 2 * l.length
  | [] => rfl
  | x :: l => by
    have := hexL_length l
    simp only [hexL] at this
    simp only [hexL, List.flatMap_cons, List.length_append, this, List.length_cons]
    simp [hexB]
    omega
theorem hexL_snoc (l : List UInt8) (x : UInt8) : hexL (l ++ [x]) = hexL l ++ hexB x := by simp [hexL]
theorem digit_inj : ∀ i : Fin 16, ∀ j : Fin 16, digit i.val = digit j.val → i = j := by decide
theorem hexB_inj {x y : UInt8} (h : hexB x = hexB y) : x = y := by
  have hx := x.toNat_lt
  have hy := y.toNat_lt
  simp only [hexB, List.cons.injEq, and_true] at h
  have h1 := digit_inj ⟨x.toNat / 16, by omega⟩ ⟨y.toNat / 16, by omega⟩ h.1
  have h2 := digit_inj ⟨x.toNat % 16, by omega⟩ ⟨y.toNat % 16, by omega⟩ h.2
  simp only [Fin.mk.injEq] at h1 h2
  exact UInt8.toNat_inj.1 (by omega)
theorem hexL_inj : ∀ {l m : List UInt8}, l.length = m.length → hexL l = hexL m → l = m
  | [], [], _, _ => rfl
  | x :: l, y :: m, hl, h => by
    simp only [hexL, List.flatMap_cons] at h
    have h0 : (hexB x).length = (hexB y).length := rfl
    obtain ⟨h1, h2⟩ := List.append_inj h h0
    rw [hexB_inj h1, hexL_inj (l := l) (m := m) (by simpa using hl) h2]
def hexS (l : List UInt8) : ByteArray := ⟨(hexL l).toArray⟩
def digitS : ByteArray := { data := #[48, 49, 50, 51, 52, 53, 54, 55, 56, 57, 97, 98, 99, 100, 101, 102] }
theorem digit_index (W : World) : ∀ i : Nat, i < 16 → (Instr.index 9 (.string { data := #[48, 49, 50, 51, 52, 53, 54, 55, 56, 57, 97, 98, 99, 100, 101, 102] }) (.int .u8 i)).run Tryd.prog W = .ok (.int .u8 (bv (digit i))) W := by
  intro i hi
  have h : i = 0 ∨ i = 1 ∨ i = 2 ∨ i = 3 ∨ i = 4 ∨ i = 5 ∨ i = 6 ∨ i = 7 ∨ i = 8 ∨ i = 9 ∨ i = 10 ∨ i = 11 ∨ i = 12 ∨ i = 13 ∨ i = 14 ∨ i = 15 := by omega
  rcases h with rfl | rfl | rfl | rfl | rfl | rfl | rfl | rfl | rfl | rfl | rfl | rfl | rfl | rfl | rfl | rfl <;> (show _ = _; kernel_rfl)
theorem bv_hi (x : UInt8) : bv x / 16 = ((x.toNat / 16 : Nat) : Int) := by unfold bv; omega
theorem bv_lo (x : UInt8) : bits .and .u8 (bv x) 15 = ((x.toNat % 16 : Nat) : Int) := by
  have hx := x.toNat_lt
  unfold bv
  rw [show (15 : Int) = ((15 : Nat) : Int) from rfl, u8_and_nat _ _ (by omega) (by omega), show (15 : Nat) = 2 ^ 4 - 1 from rfl, Nat.and_two_pow_sub_one_eq_mod]
theorem push_all : ∀ (l : List UInt8) (s : ByteArray), (l.map bv).foldl (fun r n => r.push (UInt8.ofNat n.toNat)) s = ⟨s.data ++ l.toArray⟩
  | [], s => by simp
  | x :: l, s => by
    simp only [List.map_cons, List.foldl_cons]
    rw [push_all l]
    have e : UInt8.ofNat (bv x).toNat = x := by unfold bv; simp
    rw [e]
    simp [ByteArray.push]
theorem run_to_string {w : World} (g n cap : Nat) (l : List UInt8) (hl : l.length = n) (hc : ∀ j v, (l.map bV)[j]? = some v → w.cell? ((⟨g, 0, none⟩ : Addr).add j) = some v) :
    (convert 22 9 (.slice (some ⟨g, 0, none⟩) n cap)).run Tryd.prog w = .ok (.string ⟨l.toArray⟩) w := by
  rw [run_convert_bytes_string w 22 9 5 _ _ _ Tryd.underlying22 Tryd.underlying5 Tryd.underlying9]
  have e1 : ((l.map bv).map (Value.int .u8)) = l.map bV := by rw [List.map_map]; rfl
  have hld : (loadCells ⟨g, 0, none⟩ n).run Tryd.prog w = .ok ((l.map bv).map (Value.int .u8)).toArray w := by
    have := run_loadCells_list (P := Tryd.prog) w ⟨g, 0, none⟩ (l.map bV) hc
    rw [List.length_map, hl] at this
    rw [e1]
    exact this
  rw [run_bytesToString w _ n cap (l.map bv) hld, push_all]
  simp

theorem step_append_fits {P : Program} {ops : Array Oper} {o : Oper} {a : Act} {w : World} {K : Act → World → Prop} {Q : Exit → Act → World → Prop} {E : Prop}
    (hg : o.guard = none) (s x : Operand) (t : TypeId) (hop : o.op = Op.call { callee := Callee.builtin Builtin.append, args := #[s, x], argTypes := #[t, t] })
    (base : Nat) (e : TypeId) (i : TypeInfo) (size : Nat) (h1 : P.underlying t = some (.slice e)) (h2 : P.info? e = some i) (h4 : i.size = size)
    (g k cap : Nat) (xs : List Value) (hs : a.eval s = .slice (some ⟨g, 0, none⟩) k cap) (hown : w.ownsRow base e size (.slice (some ⟨g, 0, none⟩) k cap) k xs) (ad : Addr) (m c : Nat) (news : List Value) (hx : a.eval x = .slice (some ad) m c) (hn : news.length = m * size)
    (hc : ∀ j u, news[j]? = some u → w.cell? (ad.add j) = some u) (h1c : ∀ u ∈ news, u.oneCell' = true) (b1 : k + m ≤ cap)
    (hK : ∀ w', Hid (w'.ownsRow base e size (.slice (some ⟨g, 0, none⟩) (k + m) cap) (k + m) (xs ++ news)) → Hid (w.grownBy w' (some g)) → K (a.put o.dst (.slice (some ⟨g, 0, none⟩) (k + m) cap)) w') :
    if Region.wanted o (yielded ops a.tmps) = true then Oper.wp P o a w K Q else E := by
  have hw : Region.wanted o (yielded ops a.tmps) = true := by simp [Region.wanted, hg]
  rw [if_pos hw]
  obtain ⟨w', hrun, r1, r2⟩ := run_append_fits (P := P) w base t o.type e i size h1 h2 h4 g k cap xs hown ad m c news hn hc h1c b1
  unfold Oper.wp
  simp [execOp, hop, resolve, invoke, builtin, hs, hx, hrun, Result.andThen]
  exact hK w' r1 r2

def HxInv (x : List UInt8) (w : World) (g : Nat) (v i : Value) (wr : World) : Prop :=
  ∃ k : Nat, k ≤ 32 ∧ i = .int .i64 k ∧ v = .slice (some ⟨g, 0, none⟩) (2 * k) 64 ∧ wr.ownsRow w.heap.size 5 1 v (2 * k) ((hexL (x.take k)).map bV) ∧ Below w.heap.size w wr
theorem two_new (w : World) (x y : Value) (t : TypeId) : ∀ j u, [x, y][j]? = some u → (w.alloc (.cells #[x, y] t)).cell? ((⟨w.heap.size, 0, none⟩ : Addr).add j) = some u := by
  intro j u hu
  rw [Addr.add_mid, Nat.zero_add, cell_of_row _ _ _ _ _ _ (heap_alloc_new w _)]
  simpa using hu
theorem two_u8 (x y : Int) : ∀ u ∈ [Value.int .u8 x, Value.int .u8 y], u.oneCell' = true := by
  intro u hu
  simp at hu
  rcases hu with rfl | rfl <;> rfl
set_option maxHeartbeats 400000 in
set_option maxRecDepth 100000 in
theorem hex_any (x : List UInt8) (hx : x.length = 32) (w : World) :
    Calls Tryd.prog 16 #[.agg (x.map bV).toArray] w fun e w' => e = .returned (.string (hexS x)) ∧ Below w.heap.size w w' := by
  obtain ⟨i0, hi, hz0, hz1, hz2⟩ := info_parts info_u8
  have hmk : ∀ w, (Instr.makeSlice 22 (.int .i64 0) (.int .i64 64)).run Tryd.prog w = .ok (.slice (some ⟨w.heap.size, 0, none⟩) 0 64) (w.alloc (.cells (List.replicate 64 (bV 0)).toArray 5)) := fun _ => by kernel_rfl
  have HX := Lib.hid hx
  have hsz : (x.map bV).toArray.size = 32 := by simp [hx]
  have HSZ := Lib.hid hsz
  obtain ⟨Z, hZ⟩ : ∃ Z, Z = (List.replicate 64 (bV 0)).toArray := ⟨_, rfl⟩
  rw [← hZ] at hmk
  have hZs : Z.size = 64 := by rw [hZ]; rfl
  have HZ := Lib.hid hZs
  clear hx hsz hZ hZs
  go_enter Tryd.func16, Tryd.ntmps16
  go_wp2_with ((with_reducible show wpList _ _ _ _ _ _); refine wpList_load_row rfl 25 (.tmp 1) rfl w.heap.size rfl 25 (x.map bV).toArray (0, 0) (.array 32 5) (by first | exact heap_alloc2_old w _ _ | exact heap_alloc_new w _) Tryd.underlying25 rfl (by rw [HSZ.out]; kernel_rfl) ?_; go_frame)
  clear hmk
  go_loopw [3, 8] (fun v i wr => HxInv x w (w.heap.size + 1) v i wr) (fun _ i _ => 32 - (intOf i).toNat)
  case atStart =>
    refine ⟨0, by omega, rfl, rfl, ?_, ((Below.refl _ _).alloc (Nat.le_refl _) _).alloc (by simp) _⟩
    have h := World.ownsRow_made (base := w.heap.size) (size := 1) (e := 5) (w.alloc (.cells (x.map bV).toArray 25)) Z 64 (by simp) (by decide) (by rw [HZ.out])
    rw [World.size_alloc] at h
    exact h
  case round =>
    obtain ⟨k, hk, rfl, rfl, hown, hb⟩ := hrel
    have HO := Lib.hid hown
    have HB := Lib.hid hb
    clear hown hb
    by_cases hlt : k < 32
    · obtain ⟨c, hc⟩ : ∃ c, c = x.getD k 0 := ⟨_, rfl⟩
      have hix : ∀ W, (Instr.index 25 (.agg (x.map bV).toArray) (.int .i64 k)).run Tryd.prog W = .ok (.int .u8 (bv c)) W := fun W =>
        run_index_array 25 5 32 .u8 _ k _ Tryd.underlying25 Tryd.underlying5 (by kernel_rfl) hlt (by rw [bV_get _ _ (by rw [HX.out]; exact hlt), hc])
      have hcn := c.toNat_lt
      obtain ⟨p1, hp1⟩ : ∃ p1, p1 = c.toNat / 16 := ⟨_, rfl⟩
      obtain ⟨p2, hp2⟩ : ∃ p2, p2 = c.toNat % 16 := ⟨_, rfl⟩
      have h1 : bv c / 16 = (p1 : Int) := by rw [bv_hi, hp1]
      have h2 : bits .and .u8 (bv c) 15 = (p2 : Int) := by rw [bv_lo, hp2]
      have hd1 := fun W => digit_index W p1 (by omega)
      have hd2 := fun W => digit_index W p2 (by omega)
      have HHB : Hid (hexL (x.take (k + 1)) = hexL (x.take k) ++ [digit p1, digit p2]) := by
        show _ = _
        have hkx : k < x.length := by rw [HX.out]; exact hlt
        have e : x[k] = c := by rw [hc]; simp [List.getD, List.getElem?_eq_getElem hkx]
        rw [List.take_succ_eq_append_getElem hkx, hexL_snoc, hp1, hp2, e]
        rfl
      clear hc hcn hp1 hp2
      have HOd : Hid (wr.drew.ownsRow w.heap.size 5 1 (.slice (some ⟨w.heap.size + 1, 0, none⟩) (2 * k) 64) (2 * k) ((hexL (x.take k)).map bV)) := HO.out
      go_wp2_with fail
      go_region_law (refine step_append_fits rfl (.tmp 11) (.tmp 18) 22 rfl w.heap.size 5 i0 1 Tryd.underlying22 hi hz1 (w.heap.size + 1) (2 * k) 64 _ (by simp [Act.eval]) (HOd.out.alloc _) ⟨wr.heap.size, 0, none⟩ 2 2 [.int .u8 (bv (digit p1)), .int .u8 (bv (digit p2))] (by simp [Act.eval]) rfl (two_new wr.drew _ _ _) (two_u8 _ _) (by omega) ?_; intro w3 hown3 hgrow3)
      all_goals (go_wp2_with fail)
      all_goals
        go_roundw
        case rel =>
          refine ⟨k + 1, by omega, by go_num, rfl, ?_, ?_⟩
          · rw [HHB.out, List.map_append]
            exact hown3.out
          · have hz : w.heap.size ≤ wr.heap.size := HB.out.size
            exact (HB.out.drew.alloc hz _).grown hgrow3.out (by simp; omega) (fun j hj => by cases hj; exact Nat.le_succ _)
        case measure => simp [intOf]; omega
    · have hk32 : k = 32 := by omega
      have hge : ¬ (k : Int) < 32 := by omega
      have hl : (hexL x).length = 2 * k := by rw [hexL_length, HX.out, hk32]
      have ht : x.take k = x := List.take_of_length_le (by rw [HX.out]; omega)
      have hc : ∀ j v, ((hexL x).map bV)[j]? = some v → wr.cell? ((⟨w.heap.size + 1, 0, none⟩ : Addr).add j) = some v := by
        have := HO.out.cells (g := w.heap.size + 1) rfl
        rw [ht] at this
        exact this
      have hconv := run_to_string (w.heap.size + 1) (2 * k) 64 (hexL x) hl hc
      clear hk32 hl ht hc
      go_wp2_with fail
      go_ret
      exact ⟨rfl, HB.out⟩
end Go.Proofs.YtboepklpbedanaaDoor.Sha
