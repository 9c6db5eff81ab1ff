/-
  Texts of this proof joined into one file: SqM2, SqMet, PsRow, SqSt, SqFirst, SqWaitsWalk. What each holds, and under which conditions, its own first sentence tells.
-/
import Derived.Test.YtmdbhpkfldnodaaMg02
import Derived.Test.YtmdbhpkfldnodaaMg01
/-
  One input that waits: what its bits say, and when it is met. Pure. Conditions: none.
-/
namespace Go.Proofs.Ytmdbhpkfldnodaa.Sha
open Go Go.RowKit
theorem and_bit (s i : Nat) : s &&& 2 ^ i = if s / 2 ^ i % 2 = 1 then 2 ^ i else 0 := by
  apply Nat.eq_of_testBit_eq
  intro j
  rw [Nat.testBit_and, Nat.testBit_two_pow]
  by_cases e : i = j
  · subst e
    rw [Nat.testBit_eq_decide_div_mod_eq]
    by_cases h : s / 2 ^ i % 2 = 1
    · rw [if_pos h, Nat.testBit_two_pow]; simp [h]
    · rw [if_neg h]; simp [h]
  · by_cases h : s / 2 ^ i % 2 = 1
    · rw [if_pos h, Nat.testBit_two_pow]; simp [e]
    · rw [if_neg h]; simp [e]
theorem lockB_div (s : Nat) : lockB s = decide (s / 2147483648 % 2 = 1) := by
  have h := and_bit s 31
  rw [show (2 : Nat) ^ 31 = 2147483648 by decide] at h
  unfold lockB
  rw [h]
  by_cases h2 : s / 2147483648 % 2 = 1
  · simp [h2]
  · simp [h2]
theorem timeB_div (s : Nat) : timeB s = decide (s / 4194304 % 2 = 1) := by
  have h := and_bit s 22
  rw [show (2 : Nat) ^ 22 = 4194304 by decide] at h
  unfold timeB
  rw [h]
  by_cases h2 : s / 4194304 % 2 = 1
  · simp [h2]
  · simp [h2]
theorem spanN_mod (s : Nat) : spanN s = s % 65536 := by
  unfold spanN
  exact Nat.and_two_pow_sub_one_eq_mod s 16
theorem or_time {n : Nat} (h : n < 4194304) : n ||| 4194304 = n + 4194304 := by
  have h1 := Nat.two_pow_add_eq_or_of_lt (i := 22) (b := n) h 1
  rw [show (2 : Nat) ^ 22 * 1 = 4194304 by decide] at h1
  rw [Nat.or_comm, ← h1, Nat.add_comm]
theorem or_lock {n : Nat} (h : n < 2147483648) : n ||| 2147483648 = n + 2147483648 := by
  have h1 := Nat.two_pow_add_eq_or_of_lt (i := 31) (b := n) h 1
  rw [show (2 : Nat) ^ 31 * 1 = 2147483648 by decide] at h1
  rw [Nat.or_comm, ← h1, Nat.add_comm]
theorem bits_or_nat {a b : Nat} (ha : a ≤ 4294967295) (hb : b ≤ 4294967295) : bits .or .u32 (a : Int) (b : Int) = ((a ||| b : Nat) : Int) := by
  have h := wv_or (UInt32.ofNat a) (UInt32.ofNat b)
  have e1 : wv (UInt32.ofNat a) = (a : Int) := by unfold wv; rw [UInt32.toNat_ofNat']; omega
  have e2 : wv (UInt32.ofNat b) = (b : Int) := by unfold wv; rw [UInt32.toNat_ofNat']; omega
  rw [e1, e2] at h
  rw [h]
  unfold wv
  rw [UInt32.toNat_or, UInt32.toNat_ofNat', UInt32.toNat_ofNat', Nat.mod_eq_of_lt (by omega), Nat.mod_eq_of_lt (by omega)]
theorem lock_names {s : Nat} (h : s < 2147483648) : ∃ t : Nat, Hid (t = s ||| 2147483648) ∧ Hid (bits .or .u32 (s : Int) 2147483648 = (t : Int)) ∧ Hid (t ≤ 4294967295) :=
  Exists.intro (s ||| 2147483648) ⟨Lib.hid (Eq.refl _), Lib.hid (bits_or_nat (a := s) (b := 2147483648) (by omega) (by omega)), Lib.hid (by rw [or_lock h]; omega)⟩
theorem time_names {n : Nat} (h : n < 65536) : ∃ t : Nat, Hid (t = n ||| 4194304) ∧ Hid (bits .or .u32 (n : Int) 4194304 = (t : Int)) ∧ Hid (t < 2147483648) :=
  Exists.intro (n ||| 4194304) ⟨Lib.hid (Eq.refl _), Lib.hid (bits_or_nat (a := n) (b := 4194304) (by omega) (by omega)), Lib.hid (by rw [or_time (by omega)]; omega)⟩
/-- An input that has nothing but its Seq. -/
def sqX (s : Nat) : TIn := ⟨zH, 0, [], s⟩
def sqT (ver s : Nat) : TTx := ⟨ver, [sqX s], [], 0⟩
def sqA : List Value := ptL zH 0 ++ [.slice none 0 0]
theorem sqX_cells (s : Nat) : inL (sqX s) (.slice none 0 0) = sqA ++ [nV s] := by
  unfold inL sqA sqX
  simp
theorem sqX_ok {s : Nat} (h : s ≤ 4294967295) : InOk (sqX s) := ⟨zH_length, Nat.zero_le _, h⟩
def sqmetB (t : TTx) (hs : List Int) (ps : List Nat) (height : Int) (past : Nat) : Bool := decide ((sqV t hs ps).1 < height) && decide ((sqV t hs ps).2 < (past : Int))
theorem sqV_old (s c p : Nat) : sqV (sqT 1 s) [(c : Int)] [p] = (-1, -1) := by
  unfold sqV
  exact if_pos (show (1 : Nat) < 2 by omega)
theorem needE_one (v s c p : Nat) : needE (sqT v s) [(c : Int)] [p] = [(s, (c : Int), p)] := rfl
theorem sel_one {α β : Type} (f : α → Option β) (e : α) : [e].filterMap f = (f e).toList := by cases hf : f e <;> simp [hf]
theorem sqV_two (s c p : Nat) : sqV (sqT 2 s) [(c : Int)] [p] = (grI (hSel (s, (c : Int), p)).toList, grI (pSel (s, (c : Int), p)).toList) := by
  unfold sqV
  refine (if_neg (show ¬ (2 : Nat) < 2 by omega)).trans ?_
  rw [needE_one]
  unfold hLs pLs
  rw [sel_one, sel_one]
theorem sqV_plain {n c p : Nat} (h : n < 65536) : sqV (sqT 2 n) [(c : Int)] [p] = ((c : Int) + n - 1, -1) := by
  have e1 : lockB n = false := by rw [lockB_div]; simp; omega
  have e2 : timeB n = false := by rw [timeB_div]; simp; omega
  rw [sqV_two]
  simp only [hSel, pSel, e1, e2, spanN_mod, Nat.mod_eq_of_lt h]
  rfl
theorem sqV_time {n c p : Nat} (h : n < 65536) : sqV (sqT 2 (n ||| 4194304)) [(c : Int)] [p] = (-1, (p : Int) + 512 * n - 1) := by
  rw [or_time (by omega), sqV_two]
  have e1 : lockB (n + 4194304) = false := by rw [lockB_div]; simp; omega
  have e2 : timeB (n + 4194304) = true := by rw [timeB_div]; simp; omega
  have e3 : spanN (n + 4194304) = n := by rw [spanN_mod]; omega
  simp only [hSel, pSel, e1, e2, e3]
  rfl
theorem sqV_lock {s c p : Nat} (h : s < 2147483648) : sqV (sqT 2 (s ||| 2147483648)) [(c : Int)] [p] = (-1, -1) := by
  rw [or_lock h, sqV_two]
  have e1 : lockB (s + 2147483648) = true := by rw [lockB_div]; simp; omega
  simp only [hSel, pSel, e1]
  rfl
end Go.Proofs.Ytmdbhpkfldnodaa.Sha

/-
  The project's own: whether a transaction has waited long enough, and that it has not where the rows are not as many as the inputs. Nothing that was there turns. Conditions: as for Need.
-/
namespace Go.Proofs.Ytmdbhpkfldnodaa.Sha
open Go Go.RowKit
set_option maxHeartbeats 2000000 in
set_option maxRecDepth 100000 in
theorem sqmet_any (w : World) (v vh vp : Value) (t : TTx) (hs : List Int) (ps : List Nat) (height : Int) (past : Nat) (h : TxAt w v t) (hh : RwAt 1 w vh (hs.map intC)) (hp : RwAt 1 w vp (ps.map u32C)) (hl1 : hs.length = t.ins.length) (hl2 : ps.length = t.ins.length) (hm : t.ins.length ≤ 1000000) (hho : ∀ x ∈ hs, HtOk x) (hb : ∀ p ∈ ps, p ≤ 4294967295) (hpa : past ≤ 4294967295) :
    Calls Try.prog 7 #[v, vh, vp, .int .i64 height, .int .u32 (past : Int)] w fun e w' => e = .returned (.bool (sqmetB t hs ps height past)) ∧ Below w.heap.size w w' := by
  have h0 := h
  obtain ⟨_, iv, ov, rfl, hin, hou⟩ := h
  have TONE : Hid ((txL t iv ov).toArray.all (·.oneCell') = true) := tx_one hin hou
  have LT : Hid ((txL t iv ov).toArray.size = 4) := rfl
  have ND : Hid (∀ W, Below w.heap.size w W → Calls Try.prog 8 #[.agg (txL t iv ov).toArray, vh, vp] W fun e w' => e = .returned (.tuple #[.int .i64 (sqV t hs ps).1, .int .i64 (sqV t hs ps).2, .bool true]) ∧ Below W.heap.size W w') := fun W hW => sqneed_any W _ vh vp t hs ps (h0.below hW) (hh.below hW) (hp.below hW) hl1 hl2 hm hho hb
  have ME : Hid (sqmetB t hs ps height past = (decide ((sqV t hs ps).1 < height) && decide ((sqV t hs ps).2 < (past : Int)))) := rfl
  obtain ⟨R, hR⟩ : ∃ R, R = sqmetB t hs ps height past := ⟨_, rfl⟩
  rw [← hR] at ME ⊢
  obtain ⟨a1, ha1⟩ : ∃ a1, a1 = (sqV t hs ps).1 := ⟨_, rfl⟩
  obtain ⟨a2, ha2⟩ : ∃ a2, a2 = (sqV t hs ps).2 := ⟨_, rfl⟩
  rw [← ha1, ← ha2] at ND ME
  obtain ⟨ct, hct⟩ : ∃ ct, ct = txL t iv ov := ⟨_, rfl⟩
  rw [← hct] at TONE LT ND ⊢
  clear h0 hin hou hh hp hl1 hl2 hm hho hb hR ha1 ha2 hct
  go_enter Try.func7, Try.ntmps7
  go_upto_region 1 with fail
  have f5 := heap_alloc_new w (.cells ct.toArray 35 (0, 0))
  have b1 := (Below.refl w.heap.size w).alloc (Nat.le_refl _) (.cells ct.toArray 35 (0, 0))
  generalize hw1 : World.alloc _ _ = w1
  have e1 : w.alloc (.cells ct.toArray 35 (0, 0)) = w1 := hw1
  rw [e1] at f5 b1
  obtain ⟨g5, hg5⟩ : ∃ g5, g5 = w.heap.size := ⟨_, rfl⟩
  rw [← hg5] at f5 ⊢
  have F5 := Lib.hid f5
  have B1 := Lib.hid b1
  clear f5 b1 hw1 e1 hg5
  go_wp2_with ((with_reducible show wpList _ _ _ _ _ _); (refine wpList_load_row rfl 35 (.tmp 5) rfl g5 rfl 35 ct.toArray (0, 0) _ F5.out Try.underlying35 rfl (by rw [LT.out]; kernel_rfl) ?_; go_frame))
  refine (ND.out w1 B1.out).mono ?_
  rintro e w2 ⟨rfl, bb⟩
  have B1 := Lib.hid (B1.out.trans (bb.mono B1.out.size))
  clear bb ND F5
  by_cases h1 : a1 < height
  · by_cases h2 : a2 < (past : Int)
    · have hw1 : IntKind.i64.wrap (past : Int) = (past : Int) := i64_stays (by omega)
      have hw2 : wrap64 (past : Int) = (past : Int) := by rw [← IntWalk.i64_left]; exact hw1
      have RV : Hid (R = true) := by show _ = _; rw [ME.out, decide_eq_true h1, decide_eq_true h2]; rfl
      have h3 : ¬ (past : Int) ≤ a2 := by omega
      have h4 : ¬ height ≤ a1 := by omega
      go_wp2_with fail
      go_ret
      exact ⟨by rw [RV.out]; first | rfl | (rw [decide_eq_true (show a2 < (past : Int) by omega)]; rfl), B1.out⟩
    · have hw1 : IntKind.i64.wrap (past : Int) = (past : Int) := i64_stays (by omega)
      have hw2 : wrap64 (past : Int) = (past : Int) := by rw [← IntWalk.i64_left]; exact hw1
      have RV : Hid (R = false) := by show _ = _; rw [ME.out, decide_eq_true h1, decide_eq_false h2]; rfl
      have h4 : ¬ height ≤ a1 := by omega
      have h3 : (past : Int) ≤ a2 := by omega
      go_wp2_with fail
      go_ret
      exact ⟨by rw [RV.out]; first | rfl | (rw [decide_eq_false (show ¬ a2 < (past : Int) by omega)]; rfl), B1.out⟩
  · have RV : Hid (R = false) := by show _ = _; rw [ME.out, decide_eq_false h1]; rfl
    have h4 : height ≤ a1 := by omega
    go_wp2_with fail
    go_ret
    exact ⟨by rw [RV.out]; rfl, B1.out⟩
set_option maxHeartbeats 2000000 in
set_option maxRecDepth 100000 in
theorem sqneed_no (w : World) (v : Value) (t : TTx) (sh sp : Option Addr) (a b ca cb : Nat) (h : TxAt w v t) (hne : a ≠ t.ins.length ∨ b ≠ t.ins.length) :
    Calls Try.prog 8 #[v, .slice sh a ca, .slice sp b cb] w fun e w' => e = .returned (.tuple #[.int .i64 0, .int .i64 0, .bool false]) ∧ Below w.heap.size w w' := by
  obtain ⟨_, iv, ov, rfl, hin, hou⟩ := h
  have TONE : Hid ((txL t iv ov).toArray.all (·.oneCell') = true) := tx_one hin hou
  have LT : Hid ((txL t iv ov).toArray.size = 4) := rfl
  have CO : Hid (∀ (W : World) (g : Nat), W.heap[g]? = some (.cells (txL t iv ov).toArray 35 (0, 0)) → W.cell? ⟨g, 1, none⟩ = some iv) := fun W g hg => (tx_cells hg).2.1
  obtain ⟨si, ci, rfl, _, hgi⟩ := hin
  obtain ⟨n, hn⟩ : ∃ n, n = t.ins.length := ⟨_, rfl⟩
  rw [← hn] at CO TONE LT hne ⊢
  obtain ⟨ct, hct⟩ : ∃ ct, ct = txL t (.slice si n ci) ov := ⟨_, rfl⟩
  rw [← hct] at TONE LT CO ⊢
  clear hn hgi hct hou
  go_enter Try.func8, Try.ntmps8
  go_upto_region 1 with fail
  have f3 := heap_alloc_new w (.cells ct.toArray 35 (0, 0))
  have b1 := (Below.refl w.heap.size w).alloc (Nat.le_refl _) (.cells ct.toArray 35 (0, 0))
  generalize hw1 : World.alloc _ _ = w1
  have e1 : w.alloc (.cells ct.toArray 35 (0, 0)) = w1 := hw1
  rw [e1] at f3 b1
  obtain ⟨g3, hg3⟩ : ∃ g3, g3 = w.heap.size := ⟨_, rfl⟩
  rw [← hg3] at f3 ⊢
  have B1 := Lib.hid b1
  have c1 := CO.out _ _ f3
  clear f3 b1 hw1 e1 hg3
  by_cases ha : a = n
  · have hb : b ≠ n := hne.resolve_left (fun k => k ha)
    subst ha
    have e1 : ((a : Int) != (a : Int)) = false := by simp
    have e2 : ((b : Int) != (a : Int)) = true := by simp; omega
    clear hne hb
    go_wp2_with fail
    refine bodyPost_ret (results_t3 rfl _ _) rfl ?_
    exact ⟨rfl, B1.out⟩
  · have e1 : ((a : Int) != (n : Int)) = true := by simp; omega
    clear hne ha
    go_wp2_with fail
    refine bodyPost_ret (results_t3 rfl _ _) rfl ?_
    exact ⟨rfl, B1.out⟩
set_option maxHeartbeats 2000000 in
set_option maxRecDepth 100000 in
theorem sqmet_no (w : World) (v : Value) (t : TTx) (sh sp : Option Addr) (a b ca cb : Nat) (height : Int) (past : Nat) (h : TxAt w v t) (hne : a ≠ t.ins.length ∨ b ≠ t.ins.length) :
    Calls Try.prog 7 #[v, .slice sh a ca, .slice sp b cb, .int .i64 height, .int .u32 (past : Int)] w fun e w' => e = .returned (.bool false) ∧ Below w.heap.size w w' := by
  have h0 := h
  obtain ⟨_, iv, ov, rfl, hin, hou⟩ := h
  have TONE : Hid ((txL t iv ov).toArray.all (·.oneCell') = true) := tx_one hin hou
  have LT : Hid ((txL t iv ov).toArray.size = 4) := rfl
  have ND : Hid (∀ W, Below w.heap.size w W → Calls Try.prog 8 #[.agg (txL t iv ov).toArray, .slice sh a ca, .slice sp b cb] W fun e w' => e = .returned (.tuple #[.int .i64 0, .int .i64 0, .bool false]) ∧ Below W.heap.size W w') := fun W hW => sqneed_no W _ t sh sp a b ca cb (h0.below hW) hne
  obtain ⟨ct, hct⟩ : ∃ ct, ct = txL t iv ov := ⟨_, rfl⟩
  rw [← hct] at TONE LT ND ⊢
  clear h0 hin hou hct hne
  go_enter Try.func7, Try.ntmps7
  go_upto_region 1 with fail
  have f5 := heap_alloc_new w (.cells ct.toArray 35 (0, 0))
  have b1 := (Below.refl w.heap.size w).alloc (Nat.le_refl _) (.cells ct.toArray 35 (0, 0))
  generalize hw1 : World.alloc _ _ = w1
  have e1 : w.alloc (.cells ct.toArray 35 (0, 0)) = w1 := hw1
  rw [e1] at f5 b1
  obtain ⟨g5, hg5⟩ : ∃ g5, g5 = w.heap.size := ⟨_, rfl⟩
  rw [← hg5] at f5 ⊢
  have F5 := Lib.hid f5
  have B1 := Lib.hid b1
  clear f5 b1 hw1 e1 hg5
  go_wp2_with ((with_reducible show wpList _ _ _ _ _ _); (refine wpList_load_row rfl 35 (.tmp 5) rfl g5 rfl 35 ct.toArray (0, 0) _ F5.out Try.underlying35 rfl (by rw [LT.out]; kernel_rfl) ?_; go_frame))
  refine (ND.out w1 B1.out).mono ?_
  rintro e w2 ⟨rfl, bb⟩
  have B1 := Lib.hid (B1.out.trans (bb.mono B1.out.size))
  clear bb ND F5
  go_wp2_with fail
  go_ret
  exact ⟨rfl, B1.out⟩
end Go.Proofs.Ytmdbhpkfldnodaa.Sha

/-
  A new block of 32-bit numbers as a row. No conditions.
-/
namespace Go.Proofs.Ytmdbhpkfldnodaa.Sha
open Go Go.RowKit
theorem ps_row {w : World} {g : Nat} {T : TypeId} (t : List Nat) (hb : w.heap[g]? = some (.cells (t.map (fun (x : Nat) => Value.int .u32 (x : Int))).toArray T (0, 0))) : RwAt 1 w (.slice (some ⟨g, 0, none⟩) t.length t.length) (t.map u32C) := by
  refine ⟨fun m hm => ?_, _, t.length, by rw [List.length_map], by rw [List.length_map]; exact Nat.le_refl _, fun h0 => ⟨g, 0, rfl, fun i x hx => ?_⟩⟩
  · obtain ⟨x, _, rfl⟩ := List.mem_map.1 hm
    rfl
  · rw [List.getElem?_map] at hx
    obtain ⟨y, hy, rfl⟩ := Option.map_eq_some_iff.1 hx
    intro j v hv
    rw [Nat.zero_add, Nat.mul_one]
    match j, hv with
    | 0, hv =>
      obtain rfl := Option.some.inj hv
      rw [Nat.add_zero, cell_of_row _ _ _ _ _ _ hb, List.getElem?_toArray, List.getElem?_map, hy]
      rfl
    | j + 1, hv => simp [u32C] at hv
end Go.Proofs.Ytmdbhpkfldnodaa.Sha

/-
  The state of the law of one input: a transaction in its box, its one input in its row; what Met answers of it. Conditions: none.
-/
namespace Go.Proofs.Ytmdbhpkfldnodaa.Sha
open Go Go.RowKit
def sqC (g ver : Nat) : List Value := [nV ver, .slice (some ⟨g, 0, none⟩) 1 1, .slice none 0 0, nV 0]
theorem int_row {w : World} {g : Nat} {T : TypeId} {x : Int} (hb : w.heap[g]? = some (.cells #[.int .i64 x] T (0, 0))) : RwAt 1 w (.slice (some ⟨g, 0, none⟩) 1 1) ([x].map intC) := by
  refine ⟨fun m hm => ?_, _, 1, rfl, Nat.le_refl _, fun h0 => ⟨g, 0, rfl, fun i m hm => ?_⟩⟩
  · obtain rfl := List.mem_singleton.1 hm
    rfl
  · match i, hm with
    | 0, hm =>
      obtain rfl := Option.some.inj hm
      intro j v hv
      match j, hv with
      | 0, hv =>
        obtain rfl := Option.some.inj hv
        rw [cell_of_row _ _ _ _ _ _ hb]
        rfl
      | j + 1, hv => simp [intC] at hv
    | i + 1, hm => simp at hm
theorem boxes_ab (w : World) (x y : Array Value) (T U : TypeId) :
    Below w.heap.size w ((w.alloc (.cells x T (0, 0))).alloc (.cells y U (0, 0)))
    ∧ ((w.alloc (.cells x T (0, 0))).alloc (.cells y U (0, 0))).heap[w.heap.size]? = some (.cells x T (0, 0))
    ∧ ((w.alloc (.cells x T (0, 0))).alloc (.cells y U (0, 0))).heap[w.heap.size + 1]? = some (.cells y U (0, 0)) := by
  refine ⟨((Below.refl w.heap.size w).alloc (Nat.le_refl _) _).alloc (by simp) _, row_below (heap_alloc_new w (.cells x T (0, 0))) ((Below.refl _ _).alloc (Nat.le_refl _) _), ?_⟩
  have h := heap_alloc_new (w.alloc (.cells x T (0, 0))) (.cells y U (0, 0))
  rw [World.size_alloc] at h
  exact h
theorem met_val {t : TTx} {c p : Nat} {a b : Int} (h : sqV t [(c : Int)] [p] = (a, b)) (height : Int) (past : Nat) : sqmetB t [(c : Int)] [p] height past = (decide (a < height) && decide (b < (past : Int))) := by
  unfold sqmetB
  rw [h]
theorem met_t1 {n c p s q : Nat} (hn : n < 65536) (hs : s = n ||| 4194304) (hq : (q : Int) = p + 512 * n) : sqmetB (sqT 2 s) [(c : Int)] [p] (c : Int) q = true := by
  rw [hs, met_val (sqV_time hn), decide_eq_true (by omega), decide_eq_true (by omega)]
  rfl
theorem met_t2 {n c p s q : Nat} (hn : n < 65536) (hs : s = n ||| 4194304) (hq : (q : Int) = p + 512 * n - 1) : sqmetB (sqT 2 s) [(c : Int)] [p] (c : Int) q = false := by
  rw [hs, met_val (sqV_time hn), decide_eq_false (p := (_ : Int) < (q : Int)) (by omega), Bool.and_false]
theorem met_p1 {n c p : Nat} (hn : n < 65536) : sqmetB (sqT 2 n) [(c : Int)] [p] ((c : Int) + (n : Int)) p = true := by
  rw [met_val (sqV_plain hn), decide_eq_true (by omega), decide_eq_true (by omega)]
  rfl
theorem met_p2 {n c p : Nat} (hn : n < 65536) : sqmetB (sqT 2 n) [(c : Int)] [p] ((c : Int) + (n : Int) - 1) p = false := by
  rw [met_val (sqV_plain hn), decide_eq_false (by omega), Bool.false_and]
theorem met_lock {s s2 c p : Nat} (hs : s < 2147483648) (h2 : s2 = s ||| 2147483648) : sqmetB (sqT 2 s2) [(c : Int)] [p] 0 0 = true := by
  rw [h2, met_val (sqV_lock hs)]
  rfl
theorem met_old {s c p : Nat} : sqmetB (sqT 1 s) [(c : Int)] [p] 0 0 = true := by
  rw [met_val (sqV_old s c p)]
  rfl
structure SqSt (w0 : World) (gT gI ver s : Nat) (W : World) : Prop where
  tx : W.heap[gT]? = some (.cells (sqC gI ver).toArray 35 (0, 0))
  row : W.heap[gI]? = some (.cells (sqA ++ [nV s]).toArray 31 (0, 0))
  below : Below w0.heap.size w0 W
  lowT : w0.heap.size ≤ gT
  lowI : w0.heap.size ≤ gI
  ne : gI < gT
variable {w0 W W' : World} {gT gI vr s : Nat}
theorem SqSt.keep (h : SqSt w0 gT gI vr s W) (hb : Below W.heap.size W W') : SqSt w0 gT gI vr s W' := ⟨row_below h.tx hb, row_below h.row hb, h.below.trans (hb.mono h.below.size), h.lowT, h.lowI, h.ne⟩
theorem SqSt.row2 (h : SqSt w0 gT gI vr s W) : W.heap[gI]? = some (.cells (sqA ++ [nV s] ++ []).toArray 31 (0, 0)) := by rw [List.append_nil]; exact h.row
theorem SqSt.seq {s' : Nat} (h : SqSt w0 gT gI vr s W) (hr : W'.heap[gI]? = some (.cells (sqA ++ [nV s'] ++ []).toArray 31 (0, 0))) (hg : W.grownBy W' (some gI)) : SqSt w0 gT gI vr s' W' :=
  ⟨row_far h.tx hg (fun e => by have := Option.some.inj e; have := h.ne; omega), by rw [List.append_nil] at hr; exact hr, h.below.grown hg h.below.size (fun q hq => by cases hq; exact h.lowI), h.lowT, h.lowI, h.ne⟩
theorem SqSt.ver {v' : Nat} (h : SqSt w0 gT gI vr s W) (hr : W'.heap[gT]? = some (.cells (([] : List Value) ++ [nV v'] ++ [Value.slice (some ⟨gI, 0, none⟩) 1 1, Value.slice none 0 0, nV 0]).toArray 35 (0, 0))) (hg : W.grownBy W' (some gT)) : SqSt w0 gT gI v' s W' :=
  ⟨hr, row_far h.row hg (fun e => by have := Option.some.inj e; have := h.ne; omega), h.below.grown hg h.below.size (fun q hq => by cases hq; exact h.lowT), h.lowT, h.lowI, h.ne⟩
theorem SqSt.at (h : SqSt w0 gT gI vr s W) (hs : s ≤ 4294967295) (hv : vr ≤ 4294967295) : TxAt W (.agg (sqC gI vr).toArray) (sqT vr s) := by
  refine ⟨⟨hv, Nat.zero_le _⟩, _, _, rfl, ?_, ⟨none, 0, rfl, Nat.le_refl _, fun h0 => absurd h0 (Nat.lt_irrefl 0)⟩⟩
  exact insAt_one (by rw [sqX_cells]; exact h.row) (sqX_ok hs) (nil_key W)
theorem sq_call (w : World) (v : Value) (ver s : Nat) (c p : Nat) (h : TxAt w v (sqT ver s)) (hc : c ≤ 1000000) (hp : p ≤ 4294967295) (height : Int) (past : Nat) (hpa : past ≤ 4294967295) :
    Calls Try.prog 7 #[v, .slice (some ⟨w.heap.size, 0, none⟩) 1 1, .slice (some ⟨w.heap.size + 1, 0, none⟩) 1 1, .int .i64 height, .int .u32 (past : Int)] ((w.alloc (.cells #[.int .i64 (c : Int)] 3)).alloc (.cells #[.int .u32 (p : Int)] 22)) fun e w' => e = .returned (.bool (sqmetB (sqT ver s) [(c : Int)] [p] height past)) ∧ Below w.heap.size w w' := by
  obtain ⟨b, f1, f2⟩ := boxes_ab w #[.int .i64 (c : Int)] #[.int .u32 (p : Int)] 3 22
  refine (sqmet_any _ _ _ _ (sqT ver s) [(c : Int)] [p] height past (h.below b) (int_row f1) (ps_row [p] f2) rfl rfl (by show (1 : Nat) ≤ _; omega) (fun x hx => ?_) (fun x hx => ?_) hpa).mono ?_
  · obtain rfl := List.mem_singleton.1 hx
    exact ⟨by omega, by omega⟩
  · obtain rfl := List.mem_singleton.1 hx
    exact hp
  · rintro e w' ⟨h1, h2⟩
    exact ⟨h1, b.trans (h2.mono b.size)⟩
theorem SqSt.met (h : SqSt w0 gT gI vr s W) (hs : s ≤ 4294967295) (hv : vr ≤ 4294967295) (c p : Nat) (hc : c ≤ 1000000) (hp : p ≤ 4294967295) (height : Int) (past : Nat) (hpa : past ≤ 4294967295) (r : Bool) (hr : sqmetB (sqT vr s) [(c : Int)] [p] height past = r) :
    Calls Try.prog 7 #[.agg (sqC gI vr).toArray, .slice (some ⟨W.heap.size, 0, none⟩) 1 1, .slice (some ⟨W.heap.size + 1, 0, none⟩) 1 1, .int .i64 height, .int .u32 (past : Int)] ((W.alloc (.cells #[.int .i64 (c : Int)] 3)).alloc (.cells #[.int .u32 (p : Int)] 22)) fun e w' => e = .returned (.bool r) ∧ SqSt w0 gT gI vr s w' := by
  refine (sq_call W _ vr s c p (h.at hs hv) hc hp height past hpa).mono ?_
  rintro e w' ⟨rfl, hb⟩
  exact ⟨by rw [hr], h.keep hb⟩
/-- At height and past 0, as literals. -/
theorem SqSt.met0 (h : SqSt w0 gT gI vr s W) (hs : s ≤ 4294967295) (hv : vr ≤ 4294967295) (c p : Nat) (hc : c ≤ 1000000) (hp : p ≤ 4294967295) (hr : sqmetB (sqT vr s) [(c : Int)] [p] 0 0 = true) :
    Calls Try.prog 7 #[.agg (sqC gI vr).toArray, .slice (some ⟨W.heap.size, 0, none⟩) 1 1, .slice (some ⟨W.heap.size + 1, 0, none⟩) 1 1, .int .i64 0, .int .u32 0] ((W.alloc (.cells #[.int .i64 (c : Int)] 3)).alloc (.cells #[.int .u32 (p : Int)] 22)) fun e w' => e = .returned (.bool true) ∧ SqSt w0 gT gI vr s w' := h.met hs hv c p hc hp 0 0 (by omega) true hr
theorem SqSt.no (h : SqSt w0 gT gI vr s W) (hs : s ≤ 4294967295) (hv : vr ≤ 4294967295) (height : Int) (past : Nat) :
    Calls Try.prog 7 #[.agg (sqC gI vr).toArray, .slice none 0 0, .slice none 0 0, .int .i64 height, .int .u32 (past : Int)] W fun e w' => e = .returned (.bool false) ∧ Below W.heap.size W w' :=
  sqmet_no W _ (sqT vr s) none none 0 0 0 0 height past (h.at hs hv) (.inl (by show 0 ≠ 1; omega))
end Go.Proofs.Ytmdbhpkfldnodaa.Sha

/-
  The chapter's examples. No conditions.
-/
namespace Go.Proofs.Ytmdbhpkfldnodaa.Sha
open Go Go.RowKit
theorem sqn_call (w : World) (v : Value) (ver s : Nat) (c p : Nat) (h : TxAt w v (sqT ver s)) (hc : c ≤ 1000000) (hp : p ≤ 4294967295) :
    Calls Try.prog 8 #[v, .slice (some ⟨w.heap.size, 0, none⟩) 1 1, .slice (some ⟨w.heap.size + 1, 0, none⟩) 1 1] ((w.alloc (.cells #[.int .i64 (c : Int)] 3)).alloc (.cells #[.int .u32 (p : Int)] 22)) fun e w' => e = .returned (.tuple #[.int .i64 (sqV (sqT ver s) [(c : Int)] [p]).1, .int .i64 (sqV (sqT ver s) [(c : Int)] [p]).2, .bool true]) ∧ Below w.heap.size w w' := by
  obtain ⟨b, f1, f2⟩ := boxes_ab w #[.int .i64 (c : Int)] #[.int .u32 (p : Int)] 3 22
  refine (sqneed_any _ _ _ _ (sqT ver s) [(c : Int)] [p] (h.below b) (int_row f1) (ps_row [p] f2) rfl rfl (by show (1 : Nat) ≤ _; omega) (fun x hx => ?_) (fun x hx => ?_)).mono ?_
  · obtain rfl := List.mem_singleton.1 hx
    exact ⟨by omega, by omega⟩
  · obtain rfl := List.mem_singleton.1 hx
    exact hp
  · rintro e w' ⟨h1, h2⟩
    exact ⟨h1, b.trans (h2.mono b.size)⟩
set_option maxHeartbeats 1000000 in
set_option maxRecDepth 100000 in
theorem sqfinal_zero (w : World) (a b : Int) : Calls Try.prog 9 #[.agg #[.int .u32 0, .slice none 0 0, .slice none 0 0, .int .u32 0], .int .i64 a, .int .u32 b] w fun e w' => e = .returned (.bool true) ∧ Below w.heap.size w w' := by
  go_enter Try.func9, Try.ntmps9
  have f0 := heap_alloc_new w (.cells #[.int .u32 0, .slice none 0 0, .slice none 0 0, .int .u32 0] 35 (0, 0))
  have bb := (Below.refl w.heap.size w).alloc (Nat.le_refl _) (.cells #[.int .u32 0, .slice none 0 0, .slice none 0 0, .int .u32 0] 35 (0, 0))
  go_upto_region 1 with fail
  generalize hq : World.alloc _ _ = w1 at f0 bb ⊢
  clear hq
  have c3 : w1.cell? ⟨w.heap.size, 3, none⟩ = some (.int .u32 0) := by rw [cell_of_row _ _ _ _ _ _ f0]; rfl
  go_wp2_with fail
  go_ret
  exact ⟨rfl, bb⟩
set_option maxHeartbeats 2000000 in
set_option maxRecDepth 100000 in
theorem sqfirst_any (w : World) : Calls Try.prog 5 #[] w fun e w' => e = .returned (.bool true) ∧ Below w.heap.size w w' := by
  obtain ⟨i0, hi, hz0, hz1, hz2⟩ := info_parts info_in
  go_enter Try.func5, Try.ntmps5
  go_wp2_with ((with_reducible show wpList _ _ _ _ _ _); first | (refine wpList_buildTo rfl 31 _ rfl _ rfl (sqA ++ [nV 3]).toArray (by kernel_rfl) ?_; go_frame) | (refine wpList_slice_one rfl 32 31 (.tmp 5) rfl (sqA ++ [nV 3]) rfl Try.underlying32 i0 _ hi hz0 (by rw [hz1]; rfl) (by show 0 < 35; omega) (by show 35 ≤ _; omega) ?_; have f0 := heap_alloc_new w (.cells (sqA ++ [nV 3]).toArray 31 (0, 0)); have bb := (Below.refl w.heap.size w).alloc (Nat.le_refl _) (.cells (sqA ++ [nV 3]).toArray 31 (0, 0)); generalize hq : World.alloc _ _ = w1; have e2 : w.alloc (.cells (sqA ++ [nV 3]).toArray 31 (0, 0)) = w1 := hq; rw [e2] at f0 bb; have F0 := Lib.hid f0; have B0 := Lib.hid bb; clear hq f0 bb e2; go_frame) | (refine wpList_buildTo rfl 35 _ rfl _ rfl (sqC w.heap.size 2).toArray (by kernel_rfl) ?_; go_frame))
  have TX : TxAt w1 (.agg (sqC w.heap.size 2).toArray) (sqT 2 3) := ⟨⟨by show (2 : Nat) ≤ _; omega, Nat.zero_le _⟩, _, _, rfl, insAt_one (by rw [sqX_cells]; exact F0.out) (sqX_ok (by omega)) (nil_key w1), ⟨none, 0, rfl, Nat.le_refl _, fun h0 => absurd h0 (Nat.lt_irrefl 0)⟩⟩
  refine (sqn_call w1 _ 2 3 5 9 TX (by omega) (by omega)).mono ?_
  rw [sqV_plain (by omega)]
  rintro e w2 ⟨rfl, hb⟩
  have B2 := Lib.hid (B0.out.trans (hb.mono B0.out.size))
  clear hb TX F0 B0
  go_wp2_with fail
  refine (sqfinal_zero w2 5 5).mono ?_
  rintro e w3 ⟨rfl, hb⟩
  have B3 := Lib.hid (B2.out.trans (hb.mono B2.out.size))
  clear hb
  go_wp2_with fail
  go_ret
  exact ⟨rfl, B3.out⟩
end Go.Proofs.Ytmdbhpkfldnodaa.Sha

/-
  A lock by height is met just so many blocks behind its coin, one by time so much time behind. No conditions.
-/
namespace Go.Proofs.Ytmdbhpkfldnodaa.Sha
open Go Go.RowKit
theorem cell_of_tx {w0 W : World} {gT gI ver s : Nat} (h : SqSt w0 gT gI ver s W) : W.cell? ⟨gT, 1, none⟩ = some (.slice (some ⟨gI, 0, none⟩) 1 1) := by
  rw [cell_of_row _ _ _ _ _ _ h.tx]
  rfl
theorem cell_of_seq {w0 W : World} {gT gI ver s : Nat} (h : SqSt w0 gT gI ver s W) : W.cell? ⟨gI, 34, none⟩ = some (.int .u32 (s : Int)) := by
  rw [cell_of_row _ _ _ _ _ _ h.row]
  rfl
set_option maxHeartbeats 4000000 in
set_option maxRecDepth 100000 in
theorem seqwaits_main (x y : Int) (z : Nat) (tm : Bool) (w : World) (hx : -9223372036854775808 ≤ x ∧ x ≤ 9223372036854775807) (hy : -9223372036854775808 ≤ y ∧ y ≤ 9223372036854775807) (hz : z ≤ 4294967295) :
    Calls Try.prog 3 #[.int .i64 x, .int .i64 y, .int .u32 (z : Int), .bool tm] w fun e w' => e = .returned (.bool true) ∧ Below w.heap.size w w' := by
  obtain ⟨i0, hi, hz0, hz1, hz2⟩ := info_parts info_in
  obtain ⟨n, hn, hn2⟩ := numb_nat x 65536 (by omega)
  obtain ⟨c, hc, hc2⟩ := numb_nat y 100000 (by omega)
  have HN1 : Hid (∀ W, Calls Try.prog 6 #[.int .i64 x, .int .i64 65536] W fun e w' => e = .returned (.int .i64 (n : Int)) ∧ W = w') := fun W => by rw [← show numb x 65536 = (n : Int) from hn]; exact numb_any x 65536 (by omega) (by omega) hx W
  have HN2 : Hid (∀ W, Calls Try.prog 6 #[.int .i64 y, .int .i64 100000] W fun e w' => e = .returned (.int .i64 (c : Int)) ∧ W = w') := fun W => by rw [← show numb y 100000 = (c : Int) from hc]; exact numb_any y 100000 (by omega) (by omega) hy W
  obtain ⟨p, hp⟩ : ∃ p, p = z &&& 1073741823 := ⟨_, rfl⟩
  have PE := Lib.hid hp
  have BA : bits .and .u32 (z : Int) 1073741823 = (p : Int) := by rw [hp]; exact bits_nat (b := 1073741823) hz (by omega)
  have pb : p ≤ 1073741823 := by rw [hp]; exact Nat.and_le_right
  have NL := Lib.hid hn2
  clear hn hc hp hx hy hz
  go_enter Try.func3, Try.ntmps3
  go_wp2_with fail
  refine (sqfirst_any w).mono ?_
  rintro e w1 ⟨rfl, hb⟩
  have B1 := Lib.hid hb
  clear hb
  go_wp2_with fail
  refine (HN1.out _).mono ?_
  rintro e w2 ⟨rfl, rfl⟩
  go_wp2_with fail
  refine (HN2.out _).mono ?_
  rintro e w3 ⟨rfl, rfl⟩
  have wn : IntKind.u32.wrap (n : Int) = (n : Int) := by rw [IntKind.wrap_u32]; omega
  go_upto_region 8 with ((with_reducible show wpList _ _ _ _ _ _); first | (refine wpList_buildTo rfl 31 _ rfl _ rfl (sqA ++ [nV n]).toArray (by kernel_rfl) ?_; go_frame) | (refine wpList_slice_one rfl 32 31 (.tmp 28) rfl (sqA ++ [nV n]) rfl Try.underlying32 i0 _ hi hz0 (by rw [hz1]; rfl) (by show 0 < 35; omega) (by show 35 ≤ _; omega) ?_; have f0 := heap_alloc_new w1 (.cells (sqA ++ [nV n]).toArray 31 (0, 0)); have bb := (Below.refl w1.heap.size w1).alloc (Nat.le_refl _) (.cells (sqA ++ [nV n]).toArray 31 (0, 0)); generalize hq : World.alloc _ _ = wI; have e2 : w1.alloc (.cells (sqA ++ [nV n]).toArray 31 (0, 0)) = wI := hq; rw [e2] at f0 bb; have FI := Lib.hid f0; have BI := Lib.hid bb; clear hq f0 bb e2; go_frame) | (refine wpList_buildTo rfl 35 _ rfl _ rfl [nV 2, .slice (some ⟨w1.heap.size, 0, none⟩) 1 1, .slice none 0 0, nV 0].toArray (by kernel_rfl) ?_; go_frame) | (refine wpList_store_row rfl 35 (.tmp 10) (.tmp 30) rfl wI.heap.size [nV 2, .slice (some ⟨w1.heap.size, 0, none⟩) 1 1, .slice none 0 0, nV 0].toArray rfl rfl 35 _ (heap_alloc_new _ _) (by kernel_rfl) rfl (by kernel_rfl) ?_; go_frame))
  obtain ⟨_, f2, f3, f4⟩ := fill_setup (Below.refl wI.heap.size wI) [nV 0, .slice none 0 0, .slice none 0 0, nV 0].toArray [nV 2, .slice (some ⟨w1.heap.size, 0, none⟩) 1 1, .slice none 0 0, nV 0].toArray 35
  generalize hw4 : World.setRow _ _ _ = w4
  have e4 : World.setRow (wI.alloc (.cells [nV 0, .slice none 0 0, .slice none 0 0, nV 0].toArray 35)) wI.heap.size [nV 2, .slice (some ⟨w1.heap.size, 0, none⟩) 1 1, .slice none 0 0, nV 0].toArray = w4 := hw4
  rw [e4] at f2 f4
  have f1 := row_below FI.out f4
  have SI := (BI.out).size
  have SZ : w1.heap.size < wI.heap.size := (Array.getElem?_eq_some_iff.1 FI.out).1
  obtain ⟨gI, hgI⟩ : ∃ gI, gI = w1.heap.size := ⟨_, rfl⟩
  obtain ⟨gT, hgT⟩ : ∃ gT, gT = wI.heap.size := ⟨_, rfl⟩
  rw [← hgT, ← hgI] at f2
  rw [← hgI] at f1
  rw [← hgT]
  have ST : Hid (SqSt w gT gI 2 n w4) := ⟨f2, f1, B1.out.trans ((BI.out.trans (f4.mono BI.out.size)).mono B1.out.size), by have := B1.out.size; omega, by have := B1.out.size; omega, by omega⟩
  clear hw4 e4 f1 f2 f3 f4 hgI hgT HN1 HN2 BA hi SI SZ FI BI
  cases tm with
  | true =>
    obtain ⟨s1, S1E, BO1, SB⟩ := time_names hn2
    have BO := BO1.out
    have c1 := cell_of_tx ST.out
    obtain ⟨q, hq⟩ : ∃ q, q = p + 512 * n := ⟨_, rfl⟩
    have QE : Hid ((p : Int) + 512 * (n : Int) = (q : Int)) := by show _ = _; omega
    have qb : q ≤ 4294967295 := by omega
    clear BO1 hq
    by_cases hq0 : q = 0
    · have Q0 : Hid (¬ 0 < (q : Int)) := by show ¬ _; omega
      clear hq0
      go_upto_region 14 with ((with_reducible show wpList _ _ _ _ _ _); (refine wpList_store_part rfl 22 (.tmp 42) (.tmp 40) rfl gI 34 sqA [nV n] [] [nV s1] 31 (nV s1) rfl rfl rfl rfl rfl ST.out.row2 (by kernel_rfl) (fun u hu => by obtain rfl := List.mem_singleton.1 hu; rfl) ?_; intro wv q1 q2; have ST := Lib.hid (ST.out.seq (s' := s1) q1 q2); clear q1 q2; go_frame))
      go_wp2_with ((with_reducible show wpList _ _ _ _ _ _); (refine wpList_load_row rfl 35 (.tmp 10) rfl gT rfl 35 (sqC gI 2).toArray (0, 0) _ ST.out.tx Try.underlying35 rfl (by kernel_rfl) ?_; go_frame))
      try rw [QE.out]
      have QB := Lib.hid qb
      have PB := Lib.hid (show p ≤ 4294967295 by omega)
      have CB := Lib.hid hc2
      clear qb pb c1 BO wn hc2 hn2
      refine (ST.out.met (by have := SB.out; omega) (by omega) c p (by have := CB.out; omega) PB.out (c : Int) q (QB.out) true (met_t1 NL.out S1E.out QE.out.symm)).mono ?_
      rintro e w5 ⟨rfl, hs⟩
      have ST := Lib.hid hs
      clear hs
      have q0 := Q0.out
      obtain ⟨s2, S2E, BO2, S2⟩ := lock_names SB.out
      go_upto_region 20 with fail
      go_upto_region 21 with ((with_reducible show wpList _ _ _ _ _ _); (refine wpList_store_part rfl 22 (.tmp 88) _ rfl gT 0 [] [nV 2] [.slice (some ⟨gI, 0, none⟩) 1 1, .slice none 0 0, nV 0] [nV 1] 35 (nV 1) rfl rfl rfl rfl rfl ST.out.tx (by kernel_rfl) (fun u hu => by obtain rfl := List.mem_singleton.1 hu; rfl) ?_; intro wv q1 q2; have ST := Lib.hid (ST.out.ver (v' := 1) q1 q2); clear q1 q2; go_frame))
      go_wp2_with ((with_reducible show wpList _ _ _ _ _ _); (refine wpList_load_row rfl 35 (.tmp 10) rfl gT rfl 35 (sqC gI 1).toArray (0, 0) _ ST.out.tx Try.underlying35 rfl (by kernel_rfl) ?_; go_frame))
      refine (ST.out.met0 (by have := SB.out; omega) (by omega) c p (by have := CB.out; omega) PB.out met_old).mono ?_
      rintro e w8 ⟨rfl, hs⟩
      have ST := Lib.hid hs
      clear hs
      go_upto_region 23 with ((with_reducible show wpList _ _ _ _ _ _); (refine wpList_store_part rfl 22 (.tmp 95) _ rfl gT 0 [] [nV 1] [.slice (some ⟨gI, 0, none⟩) 1 1, .slice none 0 0, nV 0] [nV 2] 35 (nV 2) rfl rfl rfl rfl rfl ST.out.tx (by kernel_rfl) (fun u hu => by obtain rfl := List.mem_singleton.1 hu; rfl) ?_; intro wv q1 q2; have ST := Lib.hid (ST.out.ver (v' := 2) q1 q2); clear q1 q2; go_frame))
      obtain ⟨wr, hwr⟩ : ∃ wr, wr = wv := ⟨_, rfl⟩
      rw [← hwr] at ST ⊢
      clear hwr
      have bo2 := BO2.out
      refine wp_region_end (fun w' => Below wr.heap.size wr w') [10] (by kernel_rfl) (Below.drew (Below.refl _ _)) (fun hHeld => ?_)
      generalize hwd : wr.drew = wd at  hHeld ⊢
      clear hwd
      refine end_take (i := 0) (v := (.pointer (some ⟨gT, 1, none⟩))) rfl (by kernel_rfl) (by kernel_rfl) (by kernel_rfl) (by kernel_rfl) (fun _ _ _ h => h) (Or.inl ⟨by rfl, fun w' _ => by kernel_rfl⟩) hHeld ?_
      go_frame
      refine end_take (i := 1) (v := (.slice (some ⟨gI, 0, none⟩) 1 1)) rfl (by kernel_rfl) (by kernel_rfl) (by kernel_rfl) (by kernel_rfl) (fun _ _ _ h => h) (yieldsIf_load_one (by rfl) 32 (.tmp 96) rfl gT (1) rfl _ _ (fun w' hw' => cell_of_tx (ST.out.keep hw')) Try.underlying32 rfl) hHeld ?_
      go_frame
      refine end_take (i := 2) (v := (.pointer (some ⟨gT, 1, none⟩))) rfl (by kernel_rfl) (by kernel_rfl) (by kernel_rfl) (by kernel_rfl) (fun _ _ _ h => h) (Or.inl ⟨by rfl, fun w' _ => by kernel_rfl⟩) hHeld ?_
      go_frame
      refine end_take (i := 3) (v := (.slice (some ⟨gI, 0, none⟩) 1 1)) rfl (by kernel_rfl) (by kernel_rfl) (by kernel_rfl) (by kernel_rfl) (fun _ _ _ h => h) (yieldsIf_load_one (by rfl) 32 (.tmp 98) rfl gT (1) rfl _ _ (fun w' hw' => cell_of_tx (ST.out.keep hw')) Try.underlying32 rfl) hHeld ?_
      go_frame
      refine end_take (i := 4) (v := (.pointer (some ⟨gI, 0, none⟩))) rfl (by kernel_rfl) (by kernel_rfl) (by kernel_rfl) (by kernel_rfl) (fun _ _ _ h => h) (Or.inl ⟨by rfl, fun w' _ => by go_simp⟩) hHeld ?_
      go_frame
      refine end_take (i := 5) (v := (.pointer (some ⟨gI, 34, none⟩))) rfl (by kernel_rfl) (by kernel_rfl) (by kernel_rfl) (by kernel_rfl) (fun _ _ _ h => h) (Or.inl ⟨by rfl, fun w' _ => by kernel_rfl⟩) hHeld ?_
      go_frame
      refine end_take (i := 6) (v := (.int .u32 (s1 : Int))) rfl (by kernel_rfl) (by kernel_rfl) (by kernel_rfl) (by kernel_rfl) (fun _ _ _ h => h) (yieldsIf_load_one (by rfl) 22 (.tmp 101) rfl gI (34) rfl _ _ (fun w' hw' => cell_of_seq (ST.out.keep hw')) Try.underlying22 rfl) hHeld ?_
      go_frame
      refine end_take (i := 7) (v := (.int .u32 (s2 : Int))) rfl (by kernel_rfl) (by kernel_rfl) (by kernel_rfl) (by kernel_rfl) (fun _ _ _ h => h) (Or.inl ⟨by rfl, fun w' _ => by go_simp⟩) hHeld ?_
      go_frame
      refine end_take (i := 8) (v := (.pointer (some ⟨gI, 0, none⟩))) rfl (by kernel_rfl) (by kernel_rfl) (by kernel_rfl) (by kernel_rfl) (fun _ _ _ h => h) (Or.inl ⟨by rfl, fun w' _ => by go_simp⟩) hHeld ?_
      go_frame
      refine end_take (i := 9) (v := (.pointer (some ⟨gI, 34, none⟩))) rfl (by kernel_rfl) (by kernel_rfl) (by kernel_rfl) (by kernel_rfl) (fun _ _ _ h => h) (Or.inl ⟨by rfl, fun w' _ => by kernel_rfl⟩) hHeld ?_
      go_frame
      refine end_last (i := 10) (by kernel_rfl) (by kernel_rfl) rfl (fun K hK => ?_)
      rw [if_pos (by rfl)]
      have STa := Lib.hid (ST.out.keep hHeld)
      refine wp_store_part 22 (.tmp 105) (.tmp 103) rfl gI 34 sqA [nV s1] [] [nV s2] 31 (nV s2) rfl rfl rfl rfl rfl STa.out.row2 (by kernel_rfl) (fun u hu => by obtain rfl := List.mem_singleton.1 hu; rfl) ?_
      intro v1 q1 q2
      have ST := Lib.hid (STa.out.seq (s' := s2) q1 q2)
      clear q1 q2 hHeld STa
      go_frame
      refine hK.out _ _ ?_
      clear hK K
      refine end_done (by kernel_rfl) ?_ _
      go_wp2_with ((with_reducible show wpList _ _ _ _ _ _); (refine wpList_load_row rfl 35 (.tmp 10) rfl gT rfl 35 (sqC gI 2).toArray (0, 0) _ ST.out.tx Try.underlying35 rfl (by kernel_rfl) ?_; go_frame))
      refine (ST.out.met0 (by have := S2.out; omega) (by omega) c p (by have := CB.out; omega) PB.out (met_lock SB.out S2E.out)).mono ?_
      rintro e w9 ⟨rfl, hs⟩
      have ST := Lib.hid hs
      clear hs
      go_wp2_with ((with_reducible show wpList _ _ _ _ _ _); (refine wpList_load_rowG 35 (.tmp 10) rfl gT rfl 35 (sqC gI 2).toArray (0, 0) _ ST.out.tx Try.underlying35 rfl (by kernel_rfl) (by rfl) ?_; go_frame))
      refine (ST.out.no (by have := S2.out; omega) (by omega) ((c : Int)) q).mono ?_
      rintro e wz ⟨rfl, bb⟩
      have BZ := Lib.hid (ST.out.below.trans (bb.mono ST.out.below.size))
      clear bb
      go_wp2_with fail
      go_ret
      exact ⟨rfl, BZ.out⟩
    · have Q0 : Hid (0 < (q : Int)) := by show _ < _; omega
      obtain ⟨q1, hq1⟩ : ∃ q1, q1 = q - 1 := ⟨_, rfl⟩
      have WQ1 : Hid (IntKind.u32.wrap ((q : Int) - 1) = (q1 : Int)) := by show _ = _; rw [IntKind.wrap_u32]; omega
      have qb1 := Lib.hid (show q1 ≤ 4294967295 by omega)
      have Q1E : Hid ((q1 : Int) = (p : Int) + 512 * (n : Int) - 1) := by show _ = _; have := QE.out; omega
      clear hq0 hq1
      go_upto_region 14 with ((with_reducible show wpList _ _ _ _ _ _); (refine wpList_store_part rfl 22 (.tmp 42) (.tmp 40) rfl gI 34 sqA [nV n] [] [nV s1] 31 (nV s1) rfl rfl rfl rfl rfl ST.out.row2 (by kernel_rfl) (fun u hu => by obtain rfl := List.mem_singleton.1 hu; rfl) ?_; intro wv q1 q2; have ST := Lib.hid (ST.out.seq (s' := s1) q1 q2); clear q1 q2; go_frame))
      go_wp2_with ((with_reducible show wpList _ _ _ _ _ _); (refine wpList_load_row rfl 35 (.tmp 10) rfl gT rfl 35 (sqC gI 2).toArray (0, 0) _ ST.out.tx Try.underlying35 rfl (by kernel_rfl) ?_; go_frame))
      try rw [QE.out]
      have QB := Lib.hid qb
      have PB := Lib.hid (show p ≤ 4294967295 by omega)
      have CB := Lib.hid hc2
      clear qb pb c1 BO wn hc2 hn2
      refine (ST.out.met (by have := SB.out; omega) (by omega) c p (by have := CB.out; omega) PB.out (c : Int) q (QB.out) true (met_t1 NL.out S1E.out QE.out.symm)).mono ?_
      rintro e w5 ⟨rfl, hs⟩
      have ST := Lib.hid hs
      clear hs
      have q0 := Q0.out
      have wq1 := WQ1.out
      go_wp2_with ((with_reducible show wpList _ _ _ _ _ _); (refine wpList_load_row rfl 35 (.tmp 10) rfl gT rfl 35 (sqC gI 2).toArray (0, 0) _ ST.out.tx Try.underlying35 rfl (by kernel_rfl) ?_; go_frame))
      refine (ST.out.met (by have := SB.out; omega) (by omega) c p (by have := CB.out; omega) PB.out (c : Int) q1 (qb1.out) false (met_t2 NL.out S1E.out Q1E.out)).mono ?_
      rintro e w6 ⟨rfl, hs⟩
      have ST := Lib.hid hs
      clear hs
      obtain ⟨s2, S2E, BO2, S2⟩ := lock_names SB.out
      go_upto_region 20 with fail
      go_upto_region 21 with ((with_reducible show wpList _ _ _ _ _ _); (refine wpList_store_part rfl 22 (.tmp 88) _ rfl gT 0 [] [nV 2] [.slice (some ⟨gI, 0, none⟩) 1 1, .slice none 0 0, nV 0] [nV 1] 35 (nV 1) rfl rfl rfl rfl rfl ST.out.tx (by kernel_rfl) (fun u hu => by obtain rfl := List.mem_singleton.1 hu; rfl) ?_; intro wv q1 q2; have ST := Lib.hid (ST.out.ver (v' := 1) q1 q2); clear q1 q2; go_frame))
      go_wp2_with ((with_reducible show wpList _ _ _ _ _ _); (refine wpList_load_row rfl 35 (.tmp 10) rfl gT rfl 35 (sqC gI 1).toArray (0, 0) _ ST.out.tx Try.underlying35 rfl (by kernel_rfl) ?_; go_frame))
      refine (ST.out.met0 (by have := SB.out; omega) (by omega) c p (by have := CB.out; omega) PB.out met_old).mono ?_
      rintro e w8 ⟨rfl, hs⟩
      have ST := Lib.hid hs
      clear hs
      go_upto_region 23 with ((with_reducible show wpList _ _ _ _ _ _); (refine wpList_store_part rfl 22 (.tmp 95) _ rfl gT 0 [] [nV 1] [.slice (some ⟨gI, 0, none⟩) 1 1, .slice none 0 0, nV 0] [nV 2] 35 (nV 2) rfl rfl rfl rfl rfl ST.out.tx (by kernel_rfl) (fun u hu => by obtain rfl := List.mem_singleton.1 hu; rfl) ?_; intro wv q1 q2; have ST := Lib.hid (ST.out.ver (v' := 2) q1 q2); clear q1 q2; go_frame))
      obtain ⟨wr, hwr⟩ : ∃ wr, wr = wv := ⟨_, rfl⟩
      rw [← hwr] at ST ⊢
      clear hwr
      have bo2 := BO2.out
      refine wp_region_end (fun w' => Below wr.heap.size wr w') [10] (by kernel_rfl) (Below.drew (Below.refl _ _)) (fun hHeld => ?_)
      generalize hwd : wr.drew = wd at  hHeld ⊢
      clear hwd
      refine end_take (i := 0) (v := (.pointer (some ⟨gT, 1, none⟩))) rfl (by kernel_rfl) (by kernel_rfl) (by kernel_rfl) (by kernel_rfl) (fun _ _ _ h => h) (Or.inl ⟨by rfl, fun w' _ => by kernel_rfl⟩) hHeld ?_
      go_frame
      refine end_take (i := 1) (v := (.slice (some ⟨gI, 0, none⟩) 1 1)) rfl (by kernel_rfl) (by kernel_rfl) (by kernel_rfl) (by kernel_rfl) (fun _ _ _ h => h) (yieldsIf_load_one (by rfl) 32 (.tmp 96) rfl gT (1) rfl _ _ (fun w' hw' => cell_of_tx (ST.out.keep hw')) Try.underlying32 rfl) hHeld ?_
      go_frame
      refine end_take (i := 2) (v := (.pointer (some ⟨gT, 1, none⟩))) rfl (by kernel_rfl) (by kernel_rfl) (by kernel_rfl) (by kernel_rfl) (fun _ _ _ h => h) (Or.inl ⟨by rfl, fun w' _ => by kernel_rfl⟩) hHeld ?_
      go_frame
      refine end_take (i := 3) (v := (.slice (some ⟨gI, 0, none⟩) 1 1)) rfl (by kernel_rfl) (by kernel_rfl) (by kernel_rfl) (by kernel_rfl) (fun _ _ _ h => h) (yieldsIf_load_one (by rfl) 32 (.tmp 98) rfl gT (1) rfl _ _ (fun w' hw' => cell_of_tx (ST.out.keep hw')) Try.underlying32 rfl) hHeld ?_
      go_frame
      refine end_take (i := 4) (v := (.pointer (some ⟨gI, 0, none⟩))) rfl (by kernel_rfl) (by kernel_rfl) (by kernel_rfl) (by kernel_rfl) (fun _ _ _ h => h) (Or.inl ⟨by rfl, fun w' _ => by go_simp⟩) hHeld ?_
      go_frame
      refine end_take (i := 5) (v := (.pointer (some ⟨gI, 34, none⟩))) rfl (by kernel_rfl) (by kernel_rfl) (by kernel_rfl) (by kernel_rfl) (fun _ _ _ h => h) (Or.inl ⟨by rfl, fun w' _ => by kernel_rfl⟩) hHeld ?_
      go_frame
      refine end_take (i := 6) (v := (.int .u32 (s1 : Int))) rfl (by kernel_rfl) (by kernel_rfl) (by kernel_rfl) (by kernel_rfl) (fun _ _ _ h => h) (yieldsIf_load_one (by rfl) 22 (.tmp 101) rfl gI (34) rfl _ _ (fun w' hw' => cell_of_seq (ST.out.keep hw')) Try.underlying22 rfl) hHeld ?_
      go_frame
      refine end_take (i := 7) (v := (.int .u32 (s2 : Int))) rfl (by kernel_rfl) (by kernel_rfl) (by kernel_rfl) (by kernel_rfl) (fun _ _ _ h => h) (Or.inl ⟨by rfl, fun w' _ => by go_simp⟩) hHeld ?_
      go_frame
      refine end_take (i := 8) (v := (.pointer (some ⟨gI, 0, none⟩))) rfl (by kernel_rfl) (by kernel_rfl) (by kernel_rfl) (by kernel_rfl) (fun _ _ _ h => h) (Or.inl ⟨by rfl, fun w' _ => by go_simp⟩) hHeld ?_
      go_frame
      refine end_take (i := 9) (v := (.pointer (some ⟨gI, 34, none⟩))) rfl (by kernel_rfl) (by kernel_rfl) (by kernel_rfl) (by kernel_rfl) (fun _ _ _ h => h) (Or.inl ⟨by rfl, fun w' _ => by kernel_rfl⟩) hHeld ?_
      go_frame
      refine end_last (i := 10) (by kernel_rfl) (by kernel_rfl) rfl (fun K hK => ?_)
      rw [if_pos (by rfl)]
      have STa := Lib.hid (ST.out.keep hHeld)
      refine wp_store_part 22 (.tmp 105) (.tmp 103) rfl gI 34 sqA [nV s1] [] [nV s2] 31 (nV s2) rfl rfl rfl rfl rfl STa.out.row2 (by kernel_rfl) (fun u hu => by obtain rfl := List.mem_singleton.1 hu; rfl) ?_
      intro v1 q1 q2
      have ST := Lib.hid (STa.out.seq (s' := s2) q1 q2)
      clear q1 q2 hHeld STa
      go_frame
      refine hK.out _ _ ?_
      clear hK K
      refine end_done (by kernel_rfl) ?_ _
      go_wp2_with ((with_reducible show wpList _ _ _ _ _ _); (refine wpList_load_row rfl 35 (.tmp 10) rfl gT rfl 35 (sqC gI 2).toArray (0, 0) _ ST.out.tx Try.underlying35 rfl (by kernel_rfl) ?_; go_frame))
      refine (ST.out.met0 (by have := S2.out; omega) (by omega) c p (by have := CB.out; omega) PB.out (met_lock SB.out S2E.out)).mono ?_
      rintro e w9 ⟨rfl, hs⟩
      have ST := Lib.hid hs
      clear hs
      go_wp2_with ((with_reducible show wpList _ _ _ _ _ _); (refine wpList_load_rowG 35 (.tmp 10) rfl gT rfl 35 (sqC gI 2).toArray (0, 0) _ ST.out.tx Try.underlying35 rfl (by kernel_rfl) (by rfl) ?_; go_frame))
      refine (ST.out.no (by have := S2.out; omega) (by omega) ((c : Int)) q).mono ?_
      rintro e wz ⟨rfl, bb⟩
      have BZ := Lib.hid (ST.out.below.trans (bb.mono ST.out.below.size))
      clear bb
      go_wp2_with fail
      go_ret
      exact ⟨rfl, BZ.out⟩
  | false =>
    have qb : p ≤ 4294967295 := by omega
    have SB : Hid (n < 2147483648) := by show _ < _; have := NL.out; omega
    by_cases hq0 : c + n = 0
    · have Q0 : Hid (¬ 0 < (c : Int) + (n : Int)) := by show ¬ _; omega
      clear hq0
      go_upto_region 14 with fail
      go_wp2_with ((with_reducible show wpList _ _ _ _ _ _); (refine wpList_load_row rfl 35 (.tmp 10) rfl gT rfl 35 (sqC gI 2).toArray (0, 0) _ ST.out.tx Try.underlying35 rfl (by kernel_rfl) ?_; go_frame))
      skip
      have QB := Lib.hid qb
      have PB := Lib.hid (show p ≤ 4294967295 by omega)
      have CB := Lib.hid hc2
      clear qb pb  wn hc2 hn2
      refine (ST.out.met (by have := SB.out; omega) (by omega) c p (by have := CB.out; omega) PB.out ((c : Int) + (n : Int)) p (QB.out) true (met_p1 NL.out)).mono ?_
      rintro e w5 ⟨rfl, hs⟩
      have ST := Lib.hid hs
      clear hs
      have q0 := Q0.out
      obtain ⟨s2, S2E, BO2, S2⟩ := lock_names SB.out
      go_upto_region 20 with fail
      go_upto_region 21 with ((with_reducible show wpList _ _ _ _ _ _); (refine wpList_store_part rfl 22 (.tmp 88) _ rfl gT 0 [] [nV 2] [.slice (some ⟨gI, 0, none⟩) 1 1, .slice none 0 0, nV 0] [nV 1] 35 (nV 1) rfl rfl rfl rfl rfl ST.out.tx (by kernel_rfl) (fun u hu => by obtain rfl := List.mem_singleton.1 hu; rfl) ?_; intro wv q1 q2; have ST := Lib.hid (ST.out.ver (v' := 1) q1 q2); clear q1 q2; go_frame))
      go_wp2_with ((with_reducible show wpList _ _ _ _ _ _); (refine wpList_load_row rfl 35 (.tmp 10) rfl gT rfl 35 (sqC gI 1).toArray (0, 0) _ ST.out.tx Try.underlying35 rfl (by kernel_rfl) ?_; go_frame))
      refine (ST.out.met0 (by have := SB.out; omega) (by omega) c p (by have := CB.out; omega) PB.out met_old).mono ?_
      rintro e w8 ⟨rfl, hs⟩
      have ST := Lib.hid hs
      clear hs
      go_upto_region 23 with ((with_reducible show wpList _ _ _ _ _ _); (refine wpList_store_part rfl 22 (.tmp 95) _ rfl gT 0 [] [nV 1] [.slice (some ⟨gI, 0, none⟩) 1 1, .slice none 0 0, nV 0] [nV 2] 35 (nV 2) rfl rfl rfl rfl rfl ST.out.tx (by kernel_rfl) (fun u hu => by obtain rfl := List.mem_singleton.1 hu; rfl) ?_; intro wv q1 q2; have ST := Lib.hid (ST.out.ver (v' := 2) q1 q2); clear q1 q2; go_frame))
      obtain ⟨wr, hwr⟩ : ∃ wr, wr = wv := ⟨_, rfl⟩
      rw [← hwr] at ST ⊢
      clear hwr
      have bo2 := BO2.out
      refine wp_region_end (fun w' => Below wr.heap.size wr w') [10] (by kernel_rfl) (Below.drew (Below.refl _ _)) (fun hHeld => ?_)
      generalize hwd : wr.drew = wd at  hHeld ⊢
      clear hwd
      refine end_take (i := 0) (v := (.pointer (some ⟨gT, 1, none⟩))) rfl (by kernel_rfl) (by kernel_rfl) (by kernel_rfl) (by kernel_rfl) (fun _ _ _ h => h) (Or.inl ⟨by rfl, fun w' _ => by kernel_rfl⟩) hHeld ?_
      go_frame
      refine end_take (i := 1) (v := (.slice (some ⟨gI, 0, none⟩) 1 1)) rfl (by kernel_rfl) (by kernel_rfl) (by kernel_rfl) (by kernel_rfl) (fun _ _ _ h => h) (yieldsIf_load_one (by rfl) 32 (.tmp 96) rfl gT (1) rfl _ _ (fun w' hw' => cell_of_tx (ST.out.keep hw')) Try.underlying32 rfl) hHeld ?_
      go_frame
      refine end_take (i := 2) (v := (.pointer (some ⟨gT, 1, none⟩))) rfl (by kernel_rfl) (by kernel_rfl) (by kernel_rfl) (by kernel_rfl) (fun _ _ _ h => h) (Or.inl ⟨by rfl, fun w' _ => by kernel_rfl⟩) hHeld ?_
      go_frame
      refine end_take (i := 3) (v := (.slice (some ⟨gI, 0, none⟩) 1 1)) rfl (by kernel_rfl) (by kernel_rfl) (by kernel_rfl) (by kernel_rfl) (fun _ _ _ h => h) (yieldsIf_load_one (by rfl) 32 (.tmp 98) rfl gT (1) rfl _ _ (fun w' hw' => cell_of_tx (ST.out.keep hw')) Try.underlying32 rfl) hHeld ?_
      go_frame
      refine end_take (i := 4) (v := (.pointer (some ⟨gI, 0, none⟩))) rfl (by kernel_rfl) (by kernel_rfl) (by kernel_rfl) (by kernel_rfl) (fun _ _ _ h => h) (Or.inl ⟨by rfl, fun w' _ => by go_simp⟩) hHeld ?_
      go_frame
      refine end_take (i := 5) (v := (.pointer (some ⟨gI, 34, none⟩))) rfl (by kernel_rfl) (by kernel_rfl) (by kernel_rfl) (by kernel_rfl) (fun _ _ _ h => h) (Or.inl ⟨by rfl, fun w' _ => by kernel_rfl⟩) hHeld ?_
      go_frame
      refine end_take (i := 6) (v := (.int .u32 (n : Int))) rfl (by kernel_rfl) (by kernel_rfl) (by kernel_rfl) (by kernel_rfl) (fun _ _ _ h => h) (yieldsIf_load_one (by rfl) 22 (.tmp 101) rfl gI (34) rfl _ _ (fun w' hw' => cell_of_seq (ST.out.keep hw')) Try.underlying22 rfl) hHeld ?_
      go_frame
      refine end_take (i := 7) (v := (.int .u32 (s2 : Int))) rfl (by kernel_rfl) (by kernel_rfl) (by kernel_rfl) (by kernel_rfl) (fun _ _ _ h => h) (Or.inl ⟨by rfl, fun w' _ => by go_simp⟩) hHeld ?_
      go_frame
      refine end_take (i := 8) (v := (.pointer (some ⟨gI, 0, none⟩))) rfl (by kernel_rfl) (by kernel_rfl) (by kernel_rfl) (by kernel_rfl) (fun _ _ _ h => h) (Or.inl ⟨by rfl, fun w' _ => by go_simp⟩) hHeld ?_
      go_frame
      refine end_take (i := 9) (v := (.pointer (some ⟨gI, 34, none⟩))) rfl (by kernel_rfl) (by kernel_rfl) (by kernel_rfl) (by kernel_rfl) (fun _ _ _ h => h) (Or.inl ⟨by rfl, fun w' _ => by kernel_rfl⟩) hHeld ?_
      go_frame
      refine end_last (i := 10) (by kernel_rfl) (by kernel_rfl) rfl (fun K hK => ?_)
      rw [if_pos (by rfl)]
      have STa := Lib.hid (ST.out.keep hHeld)
      refine wp_store_part 22 (.tmp 105) (.tmp 103) rfl gI 34 sqA [nV n] [] [nV s2] 31 (nV s2) rfl rfl rfl rfl rfl STa.out.row2 (by kernel_rfl) (fun u hu => by obtain rfl := List.mem_singleton.1 hu; rfl) ?_
      intro v1 q1 q2
      have ST := Lib.hid (STa.out.seq (s' := s2) q1 q2)
      clear q1 q2 hHeld STa
      go_frame
      refine hK.out _ _ ?_
      clear hK K
      refine end_done (by kernel_rfl) ?_ _
      go_wp2_with ((with_reducible show wpList _ _ _ _ _ _); (refine wpList_load_row rfl 35 (.tmp 10) rfl gT rfl 35 (sqC gI 2).toArray (0, 0) _ ST.out.tx Try.underlying35 rfl (by kernel_rfl) ?_; go_frame))
      refine (ST.out.met0 (by have := S2.out; omega) (by omega) c p (by have := CB.out; omega) PB.out (met_lock SB.out S2E.out)).mono ?_
      rintro e w9 ⟨rfl, hs⟩
      have ST := Lib.hid hs
      clear hs
      go_wp2_with ((with_reducible show wpList _ _ _ _ _ _); (refine wpList_load_rowG 35 (.tmp 10) rfl gT rfl 35 (sqC gI 2).toArray (0, 0) _ ST.out.tx Try.underlying35 rfl (by kernel_rfl) (by rfl) ?_; go_frame))
      refine (ST.out.no (by have := S2.out; omega) (by omega) (((c : Int) + (n : Int))) p).mono ?_
      rintro e wz ⟨rfl, bb⟩
      have BZ := Lib.hid (ST.out.below.trans (bb.mono ST.out.below.size))
      clear bb
      go_wp2_with fail
      go_ret
      exact ⟨rfl, BZ.out⟩
    · have Q0 : Hid (0 < (c : Int) + (n : Int)) := by show _ < _; omega
      have WQ1 : Hid (IntKind.i64.wrap ((c : Int) + (n : Int) - 1) = (c : Int) + (n : Int) - 1) := IntWalk.i64_in _ (by omega)
      clear hq0
      go_upto_region 14 with fail
      go_wp2_with ((with_reducible show wpList _ _ _ _ _ _); (refine wpList_load_row rfl 35 (.tmp 10) rfl gT rfl 35 (sqC gI 2).toArray (0, 0) _ ST.out.tx Try.underlying35 rfl (by kernel_rfl) ?_; go_frame))
      skip
      have QB := Lib.hid qb
      have PB := Lib.hid (show p ≤ 4294967295 by omega)
      have CB := Lib.hid hc2
      clear qb pb  wn hc2 hn2
      refine (ST.out.met (by have := SB.out; omega) (by omega) c p (by have := CB.out; omega) PB.out ((c : Int) + (n : Int)) p (QB.out) true (met_p1 NL.out)).mono ?_
      rintro e w5 ⟨rfl, hs⟩
      have ST := Lib.hid hs
      clear hs
      have q0 := Q0.out
      have wq1 := WQ1.out
      go_wp2_with ((with_reducible show wpList _ _ _ _ _ _); (refine wpList_load_row rfl 35 (.tmp 10) rfl gT rfl 35 (sqC gI 2).toArray (0, 0) _ ST.out.tx Try.underlying35 rfl (by kernel_rfl) ?_; go_frame))
      refine (ST.out.met (by have := SB.out; omega) (by omega) c p (by have := CB.out; omega) PB.out ((c : Int) + (n : Int) - 1) p (QB.out) false (met_p2 NL.out)).mono ?_
      rintro e w6 ⟨rfl, hs⟩
      have ST := Lib.hid hs
      clear hs
      obtain ⟨s2, S2E, BO2, S2⟩ := lock_names SB.out
      go_upto_region 20 with fail
      go_upto_region 21 with ((with_reducible show wpList _ _ _ _ _ _); (refine wpList_store_part rfl 22 (.tmp 88) _ rfl gT 0 [] [nV 2] [.slice (some ⟨gI, 0, none⟩) 1 1, .slice none 0 0, nV 0] [nV 1] 35 (nV 1) rfl rfl rfl rfl rfl ST.out.tx (by kernel_rfl) (fun u hu => by obtain rfl := List.mem_singleton.1 hu; rfl) ?_; intro wv q1 q2; have ST := Lib.hid (ST.out.ver (v' := 1) q1 q2); clear q1 q2; go_frame))
      go_wp2_with ((with_reducible show wpList _ _ _ _ _ _); (refine wpList_load_row rfl 35 (.tmp 10) rfl gT rfl 35 (sqC gI 1).toArray (0, 0) _ ST.out.tx Try.underlying35 rfl (by kernel_rfl) ?_; go_frame))
      refine (ST.out.met0 (by have := SB.out; omega) (by omega) c p (by have := CB.out; omega) PB.out met_old).mono ?_
      rintro e w8 ⟨rfl, hs⟩
      have ST := Lib.hid hs
      clear hs
      go_upto_region 23 with ((with_reducible show wpList _ _ _ _ _ _); (refine wpList_store_part rfl 22 (.tmp 95) _ rfl gT 0 [] [nV 1] [.slice (some ⟨gI, 0, none⟩) 1 1, .slice none 0 0, nV 0] [nV 2] 35 (nV 2) rfl rfl rfl rfl rfl ST.out.tx (by kernel_rfl) (fun u hu => by obtain rfl := List.mem_singleton.1 hu; rfl) ?_; intro wv q1 q2; have ST := Lib.hid (ST.out.ver (v' := 2) q1 q2); clear q1 q2; go_frame))
      obtain ⟨wr, hwr⟩ : ∃ wr, wr = wv := ⟨_, rfl⟩
      rw [← hwr] at ST ⊢
      clear hwr
      have bo2 := BO2.out
      refine wp_region_end (fun w' => Below wr.heap.size wr w') [10] (by kernel_rfl) (Below.drew (Below.refl _ _)) (fun hHeld => ?_)
      generalize hwd : wr.drew = wd at  hHeld ⊢
      clear hwd
      refine end_take (i := 0) (v := (.pointer (some ⟨gT, 1, none⟩))) rfl (by kernel_rfl) (by kernel_rfl) (by kernel_rfl) (by kernel_rfl) (fun _ _ _ h => h) (Or.inl ⟨by rfl, fun w' _ => by kernel_rfl⟩) hHeld ?_
      go_frame
      refine end_take (i := 1) (v := (.slice (some ⟨gI, 0, none⟩) 1 1)) rfl (by kernel_rfl) (by kernel_rfl) (by kernel_rfl) (by kernel_rfl) (fun _ _ _ h => h) (yieldsIf_load_one (by rfl) 32 (.tmp 96) rfl gT (1) rfl _ _ (fun w' hw' => cell_of_tx (ST.out.keep hw')) Try.underlying32 rfl) hHeld ?_
      go_frame
      refine end_take (i := 2) (v := (.pointer (some ⟨gT, 1, none⟩))) rfl (by kernel_rfl) (by kernel_rfl) (by kernel_rfl) (by kernel_rfl) (fun _ _ _ h => h) (Or.inl ⟨by rfl, fun w' _ => by kernel_rfl⟩) hHeld ?_
      go_frame
      refine end_take (i := 3) (v := (.slice (some ⟨gI, 0, none⟩) 1 1)) rfl (by kernel_rfl) (by kernel_rfl) (by kernel_rfl) (by kernel_rfl) (fun _ _ _ h => h) (yieldsIf_load_one (by rfl) 32 (.tmp 98) rfl gT (1) rfl _ _ (fun w' hw' => cell_of_tx (ST.out.keep hw')) Try.underlying32 rfl) hHeld ?_
      go_frame
      refine end_take (i := 4) (v := (.pointer (some ⟨gI, 0, none⟩))) rfl (by kernel_rfl) (by kernel_rfl) (by kernel_rfl) (by kernel_rfl) (fun _ _ _ h => h) (Or.inl ⟨by rfl, fun w' _ => by go_simp⟩) hHeld ?_
      go_frame
      refine end_take (i := 5) (v := (.pointer (some ⟨gI, 34, none⟩))) rfl (by kernel_rfl) (by kernel_rfl) (by kernel_rfl) (by kernel_rfl) (fun _ _ _ h => h) (Or.inl ⟨by rfl, fun w' _ => by kernel_rfl⟩) hHeld ?_
      go_frame
      refine end_take (i := 6) (v := (.int .u32 (n : Int))) rfl (by kernel_rfl) (by kernel_rfl) (by kernel_rfl) (by kernel_rfl) (fun _ _ _ h => h) (yieldsIf_load_one (by rfl) 22 (.tmp 101) rfl gI (34) rfl _ _ (fun w' hw' => cell_of_seq (ST.out.keep hw')) Try.underlying22 rfl) hHeld ?_
      go_frame
      refine end_take (i := 7) (v := (.int .u32 (s2 : Int))) rfl (by kernel_rfl) (by kernel_rfl) (by kernel_rfl) (by kernel_rfl) (fun _ _ _ h => h) (Or.inl ⟨by rfl, fun w' _ => by go_simp⟩) hHeld ?_
      go_frame
      refine end_take (i := 8) (v := (.pointer (some ⟨gI, 0, none⟩))) rfl (by kernel_rfl) (by kernel_rfl) (by kernel_rfl) (by kernel_rfl) (fun _ _ _ h => h) (Or.inl ⟨by rfl, fun w' _ => by go_simp⟩) hHeld ?_
      go_frame
      refine end_take (i := 9) (v := (.pointer (some ⟨gI, 34, none⟩))) rfl (by kernel_rfl) (by kernel_rfl) (by kernel_rfl) (by kernel_rfl) (fun _ _ _ h => h) (Or.inl ⟨by rfl, fun w' _ => by kernel_rfl⟩) hHeld ?_
      go_frame
      refine end_last (i := 10) (by kernel_rfl) (by kernel_rfl) rfl (fun K hK => ?_)
      rw [if_pos (by rfl)]
      have STa := Lib.hid (ST.out.keep hHeld)
      refine wp_store_part 22 (.tmp 105) (.tmp 103) rfl gI 34 sqA [nV n] [] [nV s2] 31 (nV s2) rfl rfl rfl rfl rfl STa.out.row2 (by kernel_rfl) (fun u hu => by obtain rfl := List.mem_singleton.1 hu; rfl) ?_
      intro v1 q1 q2
      have ST := Lib.hid (STa.out.seq (s' := s2) q1 q2)
      clear q1 q2 hHeld STa
      go_frame
      refine hK.out _ _ ?_
      clear hK K
      refine end_done (by kernel_rfl) ?_ _
      go_wp2_with ((with_reducible show wpList _ _ _ _ _ _); (refine wpList_load_row rfl 35 (.tmp 10) rfl gT rfl 35 (sqC gI 2).toArray (0, 0) _ ST.out.tx Try.underlying35 rfl (by kernel_rfl) ?_; go_frame))
      refine (ST.out.met0 (by have := S2.out; omega) (by omega) c p (by have := CB.out; omega) PB.out (met_lock SB.out S2E.out)).mono ?_
      rintro e w9 ⟨rfl, hs⟩
      have ST := Lib.hid hs
      clear hs
      go_wp2_with ((with_reducible show wpList _ _ _ _ _ _); (refine wpList_load_rowG 35 (.tmp 10) rfl gT rfl 35 (sqC gI 2).toArray (0, 0) _ ST.out.tx Try.underlying35 rfl (by kernel_rfl) (by rfl) ?_; go_frame))
      refine (ST.out.no (by have := S2.out; omega) (by omega) (((c : Int) + (n : Int))) p).mono ?_
      rintro e wz ⟨rfl, bb⟩
      have BZ := Lib.hid (ST.out.below.trans (bb.mono ST.out.below.size))
      clear bb
      go_wp2_with fail
      go_ret
      exact ⟨rfl, BZ.out⟩
end Go.Proofs.Ytmdbhpkfldnodaa.Sha
