/-
  Texts of this proof joined into one file: RefTree2, PathM, RefSmall. What each holds, and under which conditions, its own first sentence tells.
-/
import Derived.Test.YtbgagaaoldjhnaaGreatDoorMg05
import Derived.Test.YtbgagaaoldjhnaaGreatDoorMg01
import Derived.Test.YtbgagaaoldjhnaaGreatDoorMg04
import Derived.Test.YtbgagaaoldjhnaaGreatDoorMg03
/-
  The statements' own tree: the places from one down to the start; whether one is below another one. Nothing that was there turns. Conditions: the tree lies where the pointer says; each node's parent stands ahead of it, at most 4096.
-/
namespace Go.Proofs.YtbgagaaoldjhnaaGreatDoor.Sha
open Go Go.RowKit
/-- Each one's parent stands ahead of it. -/
def Down (L : List TNd) : Prop := ∀ (i : Nat) x, L[i]? = some x → -1 ≤ x.parent ∧ x.parent < (i : Int)
def parT (L : List TNd) (k : Nat) : Int := match L[k]? with | some x => x.parent | none => -1
/-- From one down to the start. -/
def upF (L : List TNd) : Nat → Int → List Int
  | 0, _ => []
  | f + 1, k => if k < 0 then [] else k :: upF L f (parT L k.toNat)
def upL (L : List TNd) (k : Int) : List Int := upF L (k.toNat + 1) k
theorem upF_more (L : List TNd) (hd : Down L) : ∀ (f g : Nat) (k : Int), k.toNat < f → k.toNat < g → k < (L.length : Int) → upF L f k = upF L g k
  | 0, _, _, h, _, _ => absurd h (by omega)
  | _ + 1, 0, _, _, h, _ => absurd h (by omega)
  | f + 1, g + 1, k, h1, h2, hk => by
    rw [upF, upF]
    by_cases h0 : k < 0
    · rw [if_pos h0, if_pos h0]
    · rw [if_neg h0, if_neg h0]
      congr 1
      obtain ⟨x, hx⟩ : ∃ x, L[k.toNat]? = some x := ⟨_, List.getElem?_eq_getElem (by omega)⟩
      have hp := hd _ _ hx
      have e : parT L k.toNat = x.parent := by unfold parT; rw [hx]
      rw [e]
      by_cases hn : x.parent < 0
      · cases f with
        | zero => cases g with
          | zero => rfl
          | succ g => rw [upF, upF, if_pos hn]
        | succ f => cases g with
          | zero => rw [upF, upF, if_pos hn]
          | succ g => rw [upF, upF, if_pos hn, if_pos hn]
      · exact upF_more L hd f g x.parent (by omega) (by omega) (by omega)
theorem upL_neg {L : List TNd} {k : Int} (h : k < 0) : upL L k = [] := by
  unfold upL
  rw [upF, if_pos h]
theorem upL_step {L : List TNd} (hd : Down L) {k : Nat} {x : TNd} (hx : L[k]? = some x) : upL L (k : Int) = (k : Int) :: upL L x.parent := by
  have hk := (List.getElem?_eq_some_iff.1 hx).1
  have hp := hd k x hx
  have e : parT L k = x.parent := by unfold parT; rw [hx]
  unfold upL
  rw [upF, if_neg (by omega), Int.toNat_natCast, e]
  congr 1
  by_cases h0 : x.parent < 0
  · rw [upF, if_pos h0]
    cases k with
    | zero => rfl
    | succ k => rw [upF, if_pos h0]
  · exact upF_more L hd _ _ _ (by omega) (by omega) (by omega)
theorem upL_bound {L : List TNd} (hd : Down L) : ∀ (n k : Nat), k ≤ n → k < L.length → (upL L (k : Int)).length ≤ k + 1
  | n, k, hkn, hk => by
    obtain ⟨x, hx⟩ : ∃ x, L[k]? = some x := ⟨_, List.getElem?_eq_getElem hk⟩
    have hp := hd k x hx
    rw [upL_step hd hx, List.length_cons]
    by_cases h0 : x.parent < 0
    · rw [upL_neg h0]; simp
    · obtain ⟨p, hpe⟩ : ∃ p : Nat, x.parent = (p : Int) := ⟨x.parent.toNat, by omega⟩
      rw [hpe]
      match n, hkn with
      | 0, h => exact absurd (show p < 0 by omega) (by omega)
      | n + 1, h =>
        have := upL_bound hd n p (by omega) (by omega)
        omega
def IntsOwn (base : Nat) (w : World) (v : Value) (l : List Int) : Prop := w.ownsRow base 3 1 v l.length (l.map (Value.int .i64 ·))
theorem info_int : (Tryz.prog.info? 3).map (fun i => (i.zero, i.size, i.bytes)) = some (some (.int .i64 0), 1, 8) := by kernel_rfl
theorem one_i64 (x : Int) : ∀ u ∈ [Value.int .i64 x], u.oneCell' = true := by
  intro u hu
  simp at hu
  subst hu
  rfl
def UpInv (n : Nat) (L : List TNd) (k0 : Int) (w : World) (vk vo : Value) (wr : World) : Prop :=
  ∃ (d : List Int) (k : Int) (tv : Value), tv = vo ∧ vk = .int .i64 k ∧ -1 ≤ k ∧ k < (n : Int) ∧ upL L k0 = d ++ upL L k ∧ IntsOwn w.heap.size wr tv d ∧ Below w.heap.size w wr ∧ d.length + (k + 1).toNat ≤ n
set_option maxHeartbeats 2000000 in
set_option maxRecDepth 100000 in
theorem rup_any (w : World) (base a : Nat) (v : Value) (L : List TNd) (k0 : Int) (h : TreeAt w base a v L) (ho : ∀ x ∈ L, NdOk x) (hd : Down L) (hn : L.length ≤ 4096) (hk1 : -1 ≤ k0) (hk2 : k0 < (L.length : Int)) :
    Calls Tryz.prog 48 #[(.pointer (some ⟨a, 0, none⟩)), .int .i64 k0] w fun e w' => ∃ v', e = .returned v' ∧ IntsOwn w.heap.size w' v' (upL L k0) ∧ Below w.heap.size w w' := by
  obtain ⟨sp, cap, rfl⟩ := h.at.shape
  rw [List.length_map] at h
  obtain ⟨n, hnl⟩ : ∃ n, n = L.length := ⟨_, rfl⟩
  rw [← hnl] at h hn hk2
  obtain ⟨i0, hi, hz0, hz1, hz2⟩ := info_parts info_int
  have N := Lib.hid hnl
  have HT := Lib.hid h
  have OK := Lib.hid ho
  have HD := Lib.hid hd
  have ST0 : Hid (IntsOwn w.heap.size w (.slice none 0 0) []) := World.ownsRow_nil _ _ _ _
  have hb0 : 0 + (k0 + 1).toNat ≤ n := by omega
  clear hnl h ho hd
  go_enter Tryz.func48, Tryz.ntmps48
  go_wp2_with fail
  go_loopw [1, 5] (fun vk vo wr => UpInv n L k0 w vk vo wr) (fun vk _ _ => (intOf vk + 1).toNat)
  case atStart => exact ⟨[], k0, _, rfl, rfl, hk1, hk2, rfl, ST0.out, Below.refl _ _, hb0⟩
  case round =>
    clear ST0 hb0
    obtain ⟨d, k, tv, rfl, rfl, hk1', hk2', he, hrow, hb, hlen⟩ := hrel
    have EQ := Lib.hid he
    have RW := Lib.hid hrow
    have BB := Lib.hid hb
    have LN := Lib.hid hlen
    clear he hrow hb hlen
    by_cases h0 : 0 ≤ k
    · obtain ⟨j, rfl⟩ : ∃ j : Nat, k = (j : Int) := ⟨k.toNat, by omega⟩
      obtain ⟨b, o, rfl, hg⟩ := (HT.out.below BB.out).get (by omega)
      obtain ⟨x, hx⟩ : ∃ x, L[j]? = some x := ⟨_, List.getElem?_eq_getElem (by rw [← N.out]; omega)⟩
      have ox := OK.out x (List.mem_of_getElem? hx)
      have XK := Lib.hid hx
      have RX := Lib.hid (hg j x hx)
      have OX := Lib.hid ox
      obtain ⟨dn, hdn⟩ : ∃ dn, dn = d.length := ⟨_, rfl⟩
      have DN := Lib.hid hdn
      have RW : Hid (wr.ownsRow w.heap.size 3 1 tv dn (d.map (Value.int .i64 ·))) := by show wr.ownsRow _ _ _ _ _ _; rw [hdn]; exact RW.out
      have DL : Hid (dn ≤ 4096) := by show _ ≤ _; rw [hdn]; have := LN.out; omega
      have q0 : (j : Int) < (n : Int) := hk2'
      clear hg hx ox hdn
      go_upto_region 4 with (at_builtin; go_loud (refine wpList_append_own _ rfl _ _ 22 rfl w.heap.size 3 i0 (.int .i64 0) 1 8 Tryz.underlying22 hi hz0 hz1 hz2 rfl (by decide) _ dn _ rfl (RW.out.alloc _) ⟨wr.heap.size, 0, none⟩ 1 1 [.int .i64 (j : Int)] rfl rfl (cell_one_new _ _ _) (one_i64 _) (by have := DL.out; unfold maxLen; omega) (by have := DL.out; omega) (by have := BB.out.size; simp; omega) ?_; intro v2 w3 ho3 hg3 _; have O3 := Lib.hid ho3; have B3 := Lib.hid (own_grown (BB.out.alloc BB.out.size _) (Nat.le_refl _) (by have := BB.out.size; simp; omega) (RW.out.alloc _) hg3); clear ho3 hg3; go_frame))
      have HT3 := HT.out.below B3.out
      have TC := HT3.cell
      obtain ⟨b', o', e', hg⟩ := HT3.get (by omega)
      obtain ⟨rfl, rfl⟩ : b = b' ∧ o = o' := by cases e'; exact ⟨rfl, rfl⟩
      have PC := (nd_nums OX.out (hg j x XK.out)).1
      clear hg e' HT3
      go_wp2_with fail
      go_roundw
      case rel =>
        have hp := HD.out j x XK.out
        refine ⟨d ++ [(j : Int)], x.parent, _, rfl, rfl, hp.1, by omega, ?_, ?_, B3.out, ?_⟩
        · rw [EQ.out, upL_step HD.out XK.out, List.append_assoc]
          rfl
        · have h := O3.out
          unfold IntsOwn
          rw [List.length_append, List.map_append, ← DN.out]
          exact h
        · rw [List.length_append]
          have := LN.out
          simp
          omega
      case measure =>
        have hp := HD.out j x XK.out
        simp [intOf]
        omega
    · have hneg : k < 0 := by omega
      have EQ2 : Hid (upL L k0 = d) := by show _ = _; rw [EQ.out, upL_neg hneg, List.append_nil]
      go_wp2_with fail
      go_ret
      rw [EQ2.out]
      exact ⟨_, rfl, RW.out, BB.out⟩
/-- Is one below another one, or it? -/
def belT (L : List TNd) (k u : Int) : Bool := (upL L k).contains u
def BeInv (n : Nat) (L : List TNd) (k0 u : Int) (vk : Value) : Prop :=
  ∃ k : Int, vk = .int .i64 k ∧ -1 ≤ k ∧ k < (n : Int) ∧ belT L k0 u = belT L k u
set_option maxHeartbeats 2000000 in
set_option maxRecDepth 100000 in
theorem rbelow_any (w : World) (base a : Nat) (v : Value) (L : List TNd) (k0 u : Int) (h : TreeAt w base a v L) (ho : ∀ x ∈ L, NdOk x) (hd : Down L) (hn : L.length ≤ 4096) (hk1 : -1 ≤ k0) (hk2 : k0 < (L.length : Int)) (hu1 : -1 ≤ u) (hu2 : u ≤ 4096) :
    Calls Tryz.prog 42 #[(.pointer (some ⟨a, 0, none⟩)), .int .i64 k0, .int .i64 u] w fun e w' => e = .returned (.bool (belT L k0 u)) ∧ w = w' := by
  obtain ⟨sp, cap, rfl⟩ := h.at.shape
  rw [List.length_map] at h
  obtain ⟨n, hnl⟩ : ∃ n, n = L.length := ⟨_, rfl⟩
  rw [← hnl] at h hn hk2
  have N := Lib.hid hnl
  have HT := Lib.hid h
  have OK := Lib.hid ho
  have HD := Lib.hid hd
  clear hnl h ho hd
  go_enter Tryz.func42, Tryz.ntmps42
  go_wp2_with fail
  go_loopw [1] (fun vk wr => BeInv n L k0 u vk ∧ w = wr) (fun vk _ => (intOf vk + 1).toNat)
  case atStart => exact ⟨⟨k0, rfl, hk1, hk2, rfl⟩, rfl⟩
  case round =>
    obtain ⟨⟨k, rfl, hk1', hk2', he⟩, rfl⟩ := hrel
    have EQ := Lib.hid he
    clear he
    by_cases h0 : 0 ≤ k
    · obtain ⟨j, rfl⟩ : ∃ j : Nat, k = (j : Int) := ⟨k.toNat, by omega⟩
      have TC := HT.out.cell
      obtain ⟨b, o, rfl, hg⟩ := HT.out.get (by omega)
      obtain ⟨x, hx⟩ : ∃ x, L[j]? = some x := ⟨_, List.getElem?_eq_getElem (by rw [← N.out]; omega)⟩
      have PC := (nd_nums (OK.out x (List.mem_of_getElem? hx)) (hg j x hx)).1
      have XK := Lib.hid hx
      have hp := HD.out j x hx
      have HP := Lib.hid hp
      have q0 : (j : Int) < (n : Int) := hk2'
      clear hg hx hp
      by_cases hu : (j : Int) = u
      · have hb : (((j : Nat) : Int) == u) = true := by rw [hu]; exact beq_self_eq_true u
        have ANS : Hid (belT L k0 u = true) := by
          show _ = _
          rw [EQ.out, belT, upL_step HD.out XK.out, ← hu]
          simp
        clear PC TC
        go_wp2_with fail
        go_ret
        exact ⟨by rw [ANS.out]; rfl, rfl⟩
      · have hb : (((j : Nat) : Int) == u) = false := beq_eq_false_iff_ne.2 hu
        have HU := Lib.hid hu
        go_wp2_with fail
        go_roundw
        case rel =>
          have hp := HP.out
          refine ⟨⟨x.parent, rfl, hp.1, by omega, ?_⟩, (by first | rfl | trivial)⟩
          rw [EQ.out, belT, belT, upL_step HD.out XK.out]
          have hne : (u == (j : Int)) = false := beq_eq_false_iff_ne.2 (fun e => HU.out e.symm)
          simp [hne]
          exact fun e => absurd e.symm HU.out
        case measure =>
          have hp := HP.out
          simp [intOf]
          omega
    · have hneg : k < 0 := by omega
      have ANS : Hid (belT L k0 u = false) := by show _ = _; rw [EQ.out, belT, upL_neg hneg]; rfl
      go_wp2_with fail
      go_ret
      exact ⟨by rw [ANS.out]; rfl, rfl⟩
end Go.Proofs.YtbgagaaoldjhnaaGreatDoor.Sha

/-
  The tree of headers as a list: chains from a node down to the start, what two chains have in common, the ids of places. No conditions.
-/
namespace Go.Proofs.YtbgagaaoldjhnaaGreatDoor.Sha
open Go Go.RowKit
theorem upL_mem {L : List TNd} (hd : Down L) : ∀ (n k : Nat), k ≤ n → k < L.length → ∀ j ∈ upL L (k : Int), 0 ≤ j ∧ j < (L.length : Int)
  | n, k, hkn, hk, j, hj => by
    obtain ⟨x, hx⟩ : ∃ x, L[k]? = some x := ⟨_, List.getElem?_eq_getElem hk⟩
    have hp := hd k x hx
    rw [upL_step hd hx] at hj
    rcases List.mem_cons.1 hj with rfl | hj
    · omega
    · by_cases h0 : x.parent < 0
      · rw [upL_neg h0] at hj
        cases hj
      · obtain ⟨p, hpe⟩ : ∃ p : Nat, x.parent = (p : Int) := ⟨x.parent.toNat, by omega⟩
        rw [hpe] at hj
        match n, hkn with
        | 0, h => exact absurd (show p < 0 by omega) (by omega)
        | n + 1, h => exact upL_mem hd n p (by omega) (by omega) j hj
/-- The start alone has no parent. -/
def Rooted (L : List TNd) : Prop := ∀ (i : Nat) x, L[i]? = some x → 0 < i → 0 ≤ x.parent
/-- How many two lists have in common from the first on. -/
def comP : List Int → List Int → Nat
  | x :: l, y :: m => if x = y then comP l m + 1 else 0
  | _, _ => 0
theorem comP_at : ∀ (l m : List Int) (j : Nat), j ≤ l.length → j ≤ m.length → (∀ i, i < j → l[i]? = m[i]?) → (j = l.length ∨ j = m.length ∨ l[j]? ≠ m[j]?) → comP l m = j
  | [], m, j, h1, _, _, _ => by
    obtain rfl : j = 0 := Nat.le_zero.1 h1
    cases m <;> rfl
  | x :: l, [], j, _, h2, _, _ => by
    obtain rfl : j = 0 := Nat.le_zero.1 h2
    rfl
  | x :: l, y :: m, 0, _, _, _, h4 => by
    have hne : x ≠ y := fun e => by
      rcases h4 with h | h | h
      · simp at h
      · simp at h
      · exact h (by rw [e]; rfl)
    unfold comP
    rw [if_neg hne]
  | x :: l, y :: m, j + 1, h1, h2, h3, h4 => by
    have he : x = y := by have := h3 0 (by omega); simpa using this
    unfold comP
    rw [if_pos he, comP_at l m j (by simpa using h1) (by simpa using h2) (fun i hi => by have := h3 (i + 1) (by omega); simpa using this) (by
      rcases h4 with h | h | h
      · left; simpa using h
      · right; left; simpa using h
      · right; right; simpa using h)]
theorem comP_le : ∀ (l m : List Int), comP l m ≤ l.length ∧ comP l m ≤ m.length
  | [], m => by cases m <;> exact ⟨Nat.zero_le _, Nat.zero_le _⟩
  | x :: l, [] => ⟨Nat.zero_le _, Nat.zero_le _⟩
  | x :: l, y :: m => by
    have ih := comP_le l m
    unfold comP
    by_cases h : x = y
    · rw [if_pos h]
      exact ⟨by simp; exact ih.1, by simp; exact ih.2⟩
    · rw [if_neg h]
      exact ⟨Nat.zero_le _, Nat.zero_le _⟩
theorem upL_last {L : List TNd} (hd : Down L) (hr : Rooted L) : ∀ (n k : Nat), k ≤ n → k < L.length → (upL L (k : Int)).getLast? = some 0
  | n, k, hkn, hk => by
    obtain ⟨x, hx⟩ : ∃ x, L[k]? = some x := ⟨_, List.getElem?_eq_getElem hk⟩
    have hp := hd k x hx
    rw [upL_step hd hx]
    by_cases h0 : k = 0
    · subst h0
      rw [upL_neg (by omega)]
      rfl
    · have hx0 := hr k x hx (by omega)
      obtain ⟨p, hpe⟩ : ∃ p : Nat, x.parent = (p : Int) := ⟨x.parent.toNat, by omega⟩
      rw [hpe]
      match n, hkn with
      | 0, h => exact absurd h (by omega)
      | n + 1, h =>
        have ih := upL_last hd hr n p (by omega) (by omega)
        rw [List.getLast?_cons, ih]
        rfl
/-- The ids of these places. -/
def idsT (L : List TNd) (l : List Int) : List (List UInt8) := l.map fun j => (L.getD j.toNat ndZ).id
def comT (L : List TNd) (x y : Int) : Nat := comP (upL L x).reverse (upL L y).reverse
def backT (L : List TNd) (x y : Int) : List (List UInt8) := idsT L ((upL L x).take ((upL L x).length - comT L x y))
def onT (L : List TNd) (x y : Int) : List (List UInt8) := idsT L (((upL L y).take ((upL L y).length - comT L x y)).reverse)
def meetT (L : List TNd) (x y : Int) : List UInt8 := (L.getD ((upL L x).getD ((upL L x).length - comT L x y) 0).toNat ndZ).id
theorem com_pos {L : List TNd} (hd : Down L) (hr : Rooted L) {x y : Nat} (hx : x < L.length) (hy : y < L.length) : 0 < comT L (x : Int) (y : Int) := by
  have h1 := upL_last hd hr x x (Nat.le_refl _) hx
  have h2 := upL_last hd hr y y (Nat.le_refl _) hy
  rw [← List.head?_reverse] at h1 h2
  unfold comT
  cases hl : (upL L (x : Int)).reverse with
  | nil => rw [hl] at h1; cases h1
  | cons u l =>
    cases hm : (upL L (y : Int)).reverse with
    | nil => rw [hm] at h2; cases h2
    | cons v m =>
      rw [hl] at h1
      rw [hm] at h2
      have e1 : u = 0 := by simpa using h1
      have e2 : v = 0 := by simpa using h2
      unfold comP
      rw [e1, e2, if_pos rfl]
      omega
theorem idsT_succ {L : List TNd} {l : List Int} {i : Nat} {j : Int} (h : l[i]? = some j) : idsT L (l.take (i + 1)) = idsT L (l.take i) ++ [(L.getD j.toNat ndZ).id] := by
  unfold idsT
  rw [List.take_succ_eq_append_getElem (List.getElem?_eq_some_iff.1 h).1, (List.getElem?_eq_some_iff.1 h).2, List.map_append]
  rfl
theorem rev_get {α : Type} {l : List α} {n i p : Nat} (hn : l.length = n) (h : i + p + 1 = n) : l.reverse[i]? = l[p]? := by
  rw [List.getElem?_reverse (by omega), hn, show n - 1 - i = p by omega]
end Go.Proofs.YtbgagaaoldjhnaaGreatDoor.Sha

/-
  Small functions of the statements' own SHA-256: a word turned right, the table of the rounds' words, as the chapter gives them. No conditions.
-/
namespace Go.Proofs.YtbgagaaoldjhnaaGreatDoor.Sha
open Go Go.RowKit
theorem right_fact (x : UInt32) (n : Nat) (h1 : 1 ≤ n) (h2 : n ≤ 31) : bits .or .u32 (wv x / 2 ^ n) (wv x * 2 ^ (32 - n) % 4294967296) = wv (rotr x n) := by
  rw [← IntKind.wrap_u32', wv_shl x _ (by omega), wv_shr x n (by omega), wv_or]
  rfl
set_option maxRecDepth 100000 in
theorem right_any (x : UInt32) (n : Nat) (k : Int) (hk : k = (n : Int)) (h1 : 1 ≤ n) (h2 : n ≤ 31) (w : World) :
    Calls Tryz.prog 70 #[.int .u32 (wv x), .int .u64 k] w fun e w' => e = .returned (.int .u32 (wv (rotr x n))) ∧ w = w' := by
  subst hk
  go_enter Tryz.func70, Tryz.ntmps70
  go_wp2
  go_ret
  exact ⟨ret_int (right_fact x n h1 h2), rfl⟩
theorem right_z (x : UInt32) (k : Int) (h1 : 1 ≤ k) (h2 : k ≤ 31) (w : World) :
    Calls Tryz.prog 70 #[.int .u32 (wv x), .int .u64 k] w fun e w' => e = .returned (.int .u32 (wv (rotr x k.toNat))) ∧ w = w' :=
  right_any x k.toNat k (by omega) (by omega) (by omega) w
theorem wv_sum3 (a b c : UInt32) : (wv a + wv b + wv c) % 4294967296 = wv (a + b + c) := by rw [← wv_sum, ← wv_sum]; omega
theorem wv_sum4 (a b c d : UInt32) : (wv a + wv b + wv c + wv d) % 4294967296 = wv (a + b + c + d) := by rw [← wv_sum, ← wv_sum3]; omega
theorem wv_not (x : UInt32) : bits .xor .u32 IntKind.u32.max (wv x) = wv (~~~x) := by
  rw [show IntKind.u32.max = wv 4294967295 from rfl, wv_xor, show (4294967295 : UInt32) = -1 from rfl, UInt32.neg_one_xor]
set_option maxRecDepth 100000 in
theorem k_any (w : World) : Calls Tryz.prog 69 #[] w fun e w' => e = .returned (.slice (some ⟨w.heap.size, 0, none⟩) 64 64) ∧ w'.heap[w.heap.size]? = some (.cells (kList.map wV).toArray 23 (0, 0)) ∧ Below w.heap.size w w' := by
  go_enter Tryz.func69, Tryz.ntmps69
  go_wp2
  go_ret
  exact ⟨rfl, by rw [heap_alloc_new]; rfl, (Below.refl _ _).alloc (Nat.le_refl _) _⟩
end Go.Proofs.YtbgagaaoldjhnaaGreatDoor.Sha
