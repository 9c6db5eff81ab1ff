/-
  Texts of this proof joined into one file: UdPut, RwApp, HdMath, HdVal, Txs, UdApply, TxBuilds. What each holds, and under which conditions, its own first sentence tells.
-/
import Derived.Test.YtibfamhhjnaeiaaDoorMg10
import Derived.Test.YtibfamhhjnaeiaaDoorMg07
import Derived.Test.YtibfamhhjnaeiaaDoorMg08
import Derived.Test.YtibfamhhjnaeiaaDoorMg05
import Derived.Test.YtibfamhhjnaeiaaDoorMg12
import Derived.Test.YtibfamhhjnaeiaaDoorMg03
import Derived.Test.YtibfamhhjnaeiaaDoorMg04
import Derived.Test.YtibfamhhjnaeiaaDoorMg06
/-
  A transaction is put on, on the way of package undo: what it took, or the error; what was done leads from the coins at the way's head. The set, the way and new memory turn, no more. Conditions: the set, the way and the transaction lie where they should; the errors, the table of the rounds' words are there.
-/
namespace Go.Proofs.YtibfamhhjnaeiaaDoor.Sha
open Go Go.RowKit
theorem txAt_parts {W : World} {t : TTx} {iv ov : Value} (h : TxAt W (.agg (txL t iv ov).toArray) t) : InsAt W iv t.ins ∧ OutsAt W ov t.outs := by
  obtain ⟨_, iv', ov', e, h1, h2⟩ := h
  have e : txL t iv ov = txL t iv' ov' := by simpa using e
  simp only [txL, List.cons.injEq, and_true, true_and] at e
  obtain ⟨rfl, rfl⟩ := e
  exact ⟨h1, h2⟩
/-- What put leaves: N bounds how much was done. -/
def PuPost (E : Nat → Addr) (w0 : World) (a : Nat) (m0 : Option Nat) (gw : Nat) (l0 : List TSp) (N M : Nat) (R : Except Nat (List TSp × List TSp)) (w : World) (e : Ending) (w' : World) : Prop :=
  ∃ (m : Option Nat) (l : List TSp) (v : Value) (st : List (TSp × Bool)), WyG w0 a m0 gw w' m l v v st ∧ Tr l0 st l ∧ st.length ≤ N ∧ Stand w w' ∧
    ((∃ c, R = .error (c + 1) ∧ e = .returned (.tuple #[.slice none 0 0, errV E (c + 1)])) ∨
     (∃ tk tv, R = .ok (tk, l) ∧ e = .returned (.tuple #[tv, .nilIface]) ∧ RwOwn 68 33 w.heap.size w' tv (tk.map spL) ∧ (∀ x ∈ tk, SpOk x) ∧ tk.length ≤ M))
def PuI1 (w0 : World) (a : Nat) (m0 : Option Nat) (gw : Nat) (w : World) (l0 l : List TSp) (xs : List TIn) (n N g4 : Nat) (ct : List Value) (v6 vi : Value) (wr : World) : Prop :=
  ∃ (k : Nat) (tk l' : List TSp) (m : Option Nat) (vb : Value) (st : List (TSp × Bool)) (tv : Value), tv = v6 ∧ k ≤ n ∧ vi = .int .i64 (k : Int) ∧ (xs.take k).foldlM spStep ([], l) = .ok (tk, l') ∧ WyG w0 a m0 gw wr m l' vb vb st ∧ Tr l0 st l' ∧ st.length ≤ N + k ∧ Stand w wr
    ∧ wr.heap[g4]? = some (.cells ct.toArray 58 (0, 0)) ∧ RwOwn 68 33 w.heap.size wr tv (tk.map spL) ∧ (∀ x ∈ tk, SpOk x) ∧ tk.length = k
def PuI2 (w0 : World) (a : Nat) (m0 : Option Nat) (gw : Nat) (w : World) (l0 l : List TSp) (id : List UInt8) (ht : Int) (b : Bool) (zs : List (TOut × Nat)) (n N g13 : Nat) (tv : Value) (tk : List TSp) (v6 vi : Value) (wr : World) : Prop :=
  ∃ (k : Nat) (l' : List TSp) (m : Option Nat) (vb : Value) (st : List (TSp × Bool)), v6 = tv ∧ k ≤ n ∧ vi = .int .i64 (k : Int) ∧ (zs.take k).foldlM (adStep id ht b) l = .ok l' ∧ WyG w0 a m0 gw wr m l' vb vb st ∧ Tr l0 st l' ∧ st.length ≤ N + k ∧ Stand w wr
    ∧ wr.heap[g13]? = some (.cells (id.map bV).toArray 25 (0, 0)) ∧ RwOwn 68 33 w.heap.size wr tv (tk.map spL)
theorem numV_cases (c : Nat) (h : c ≠ 0) : ∃ d, c = d + 1 := ⟨c - 1, by omega⟩
theorem addR_cases (l : List TSp) (p : TPt) (c : TMn) : addR l p c = 0 ∨ addR l p c = 5 ∨ addR l p c = 6 := by
  unfold addR
  split
  · exact .inr (.inl rfl)
  · split
    · exact .inr (.inr rfl)
    · exact .inl rfl
theorem WyG.grownRow {w0 w w' : World} {a gw base k n : Nat} {T : TypeId} {u : Value} {xs : List Value} {m0 m : Option Nat} {l : List TSp} {vb v : Value} {st : List (TSp × Bool)} (h : WyG w0 a m0 gw w m l vb v st) (ho : w.ownsRow base T k u n xs) (hb : w0.heap.size ≤ base) (hg : w.grownBy w' u.ownBlock) (h1 : T ≠ 47 := by decide) (h2 : 107 ≠ T := by decide) (h3 : 76 ≠ T := by decide) : WyG w0 a m0 gw w' m l vb v st := by
  cases hq : u.ownBlock with
  | none =>
    rw [hq] at hg
    exact h.below (below_made hg)
  | some g =>
    rw [hq] at hg
    have hl := (ho.lt g hq).1
    rcases ho.2 with ⟨rfl, _⟩ | ⟨b, cap, cur, rfl, _, hc, _⟩
    · cases hq
    · have e' : b = g := Option.some.inj hq
      rw [e'] at hc
      exact h.other hc hg h1 h2 h3 (Nat.le_trans hb hl)
set_option maxHeartbeats 4000000 in
set_option maxRecDepth 100000 in
theorem wyput_any (E : Nat → Addr) (w0 w : World) (a gw : Nat) (m0 m : Option Nat) (l0 l : List TSp) (vb : Value) (st : List (TSp × Bool)) (t : TTx) (iv ov : Value) (ht : Int) (hE : ECw E w0 a m0) (hs : WyG w0 a m0 gw w m l vb vb st) (hT : ∀ W, Kps (fun j => j ≠ a ∧ m0 ≠ some j) w0 W → TxAt W (.agg (txL t iv ov).toArray) t) (hK : ∀ W, Kps (fun j => j ≠ a ∧ m0 ≠ some j) w0 W → KTab W) (hsm : TxSmall t) (hn : st.length + t.ins.length + t.outs.length ≤ 1000000) (hh : -9223372036854775808 ≤ ht ∧ ht ≤ 9223372036854775807) (htr : Tr l0 st l) :
    Calls Tryd.prog 24 #[(.pointer (some ⟨gw, 0, none⟩)), .agg (txL t iv ov).toArray, .int .i64 ht] w (PuPost E w0 a m0 gw l0 (st.length + t.ins.length + t.outs.length) t.ins.length (putE ht l t) w) := by
  obtain ⟨i0, hi, hz0, hz1, hz2⟩ := info_parts info_spent
  have ST := Lib.hid hs
  have WZ : Hid (w0.heap.size ≤ w.heap.size) := hs.kps.size
  have HE := Lib.hid hE
  have TR := Lib.hid htr
  have HH := Lib.hid hh
  have TI : Hid (∀ W, Kps (fun j => j ≠ a ∧ m0 ≠ some j) w0 W → InsAt W (spSlice t iv) (insS t)) := fun W hW => insS_at (txAt_parts (hT W hW)).1
  have TO : Hid (∀ W, Kps (fun j => j ≠ a ∧ m0 ≠ some j) w0 W → OutsAt W ov t.outs) := fun W hW => (txAt_parts (hT W hW)).2
  have TONE : Hid ((txL t iv ov).toArray.all (·.oneCell') = true) := tx_one (txAt_parts (hT w hs.kps)).1 (txAt_parts (hT w hs.kps)).2
  have BA : Hid (∀ W, Kps (fun j => j ≠ a ∧ m0 ≠ some j) w0 W → Calls Tryd.prog 43 #[.agg (txL t iv ov).toArray] W fun e w' => e = .returned (.bool (baseB t)) ∧ Below W.heap.size W w') := fun W hW => base_all t _ W _ rfl (hT W hW) hsm
  have SA : Hid (∀ W, Kps (fun j => j ≠ a ∧ m0 ≠ some j) w0 W → Calls Tryd.prog 44 #[.agg (txL t iv ov).toArray] W fun e w' => e = .returned (spSlice t iv) ∧ Below W.heap.size W w') := fun W hW => spending_any t iv ov W (hT W hW) hsm
  have IA : Hid (∀ W, Kps (fun j => j ≠ a ∧ m0 ≠ some j) w0 W → Calls Tryd.prog 46 #[.agg (txL t iv ov).toArray] W fun e w' => e = .returned (.agg ((idT t).map bV).toArray) ∧ Below W.heap.size W w') := fun W hW => id_of bytes_all t _ W (hK W hW) (hT W hW) hsm
  have LID : Hid ((idT t).length = 32) := sha_length _
  have LT : Hid ((txL t iv ov).toArray.size = 4) := rfl
  have CO : Hid (∀ (W : World) (g : Nat), W.heap[g]? = some (.cells (txL t iv ov).toArray 58 (0, 0)) → W.cell? ⟨g, 2, none⟩ = some ov) := fun W g hg => (tx_cells hg).2.2.1
  have nx : (insS t).length ≤ t.ins.length := by unfold insS; split <;> simp
  have PE1 : Hid (∀ c, (insS t).foldlM spStep ([], l) = .error c → putE ht l t = .error c) := fun c h => by rw [putE, h]
  have PE2 : Hid (∀ r c, (insS t).foldlM spStep ([], l) = .ok r → t.outs.zipIdx.foldlM (adStep (idT t) ht (baseB t)) r.2 = .error c → putE ht l t = .error c) := fun r c h h2 => by rw [putE, h]; simp only [h2]
  have PE3 : Hid (∀ r l', (insS t).foldlM spStep ([], l) = .ok r → t.outs.zipIdx.foldlM (adStep (idT t) ht (baseB t)) r.2 = .ok l' → putE ht l t = .ok (r.1, l')) := fun r l' h h2 => by rw [putE, h]; simp only [h2]
  obtain ⟨R, hR⟩ : ∃ R, R = putE ht l t := ⟨_, rfl⟩
  rw [← hR] at PE1 PE2 PE3 ⊢
  obtain ⟨spi, capi, hsv⟩ : ∃ sp cap, spSlice t iv = .slice sp (insS t).length cap := by
    obtain ⟨sp, cap, e, _⟩ := TI.out w hs.kps
    exact ⟨sp, cap, e⟩
  obtain ⟨spo, capo, hov⟩ : ∃ sp cap, ov = .slice sp t.outs.length cap := by
    obtain ⟨sp, cap, e, _⟩ := TO.out w hs.kps
    exact ⟨sp, cap, e⟩
  have OKI : Hid (∀ k x, (insS t)[k]? = some x → InOk x) := fun k x hx => by
    obtain ⟨sp, cap, _, _, h3⟩ := TI.out w hs.kps
    obtain ⟨b, o, _, h5⟩ := h3 (by have := (List.getElem?_eq_some_iff.1 hx).1; omega)
    exact (h5 k x hx).1
  obtain ⟨id, hid⟩ : ∃ id, id = idT t := ⟨_, rfl⟩
  obtain ⟨b, hb⟩ : ∃ b, b = baseB t := ⟨_, rfl⟩
  obtain ⟨xs, hxs⟩ : ∃ xs, xs = insS t := ⟨_, rfl⟩
  obtain ⟨ys, hys⟩ : ∃ ys, ys = t.outs := ⟨_, rfl⟩
  rw [hsv] at TI SA
  rw [← hid, ← hb, ← hxs, ← hys] at PE2 PE3
  rw [← hxs] at TI SA PE1 OKI nx hsv
  rw [← hys] at TO hov hn ⊢
  rw [← hid] at IA LID
  rw [← hb] at BA
  obtain ⟨n, hn1⟩ : ∃ n, n = xs.length := ⟨_, rfl⟩
  obtain ⟨no, hno⟩ : ∃ no, no = ys.length := ⟨_, rfl⟩
  rw [← hn1] at TI SA nx hsv
  rw [← hno] at hov hn ⊢
  have NX := Lib.hid hn1
  have NO := Lib.hid hno
  obtain ⟨N0, hN0⟩ : ∃ N0, N0 = st.length := ⟨_, rfl⟩
  rw [← hN0] at hn ⊢
  have HN0 : Hid (st.length ≤ N0) := by show _ ≤ _; omega
  obtain ⟨ct, hct⟩ : ∃ ct, ct = txL t iv ov := ⟨_, rfl⟩
  rw [← hct] at TONE BA SA IA LT CO ⊢
  rw [hov] at TO CO
  have TO := Lib.hid TO.out
  obtain ⟨nt, hnt⟩ : ∃ nt, nt = t.ins.length := ⟨_, rfl⟩
  rw [← hnt] at hn nx ⊢
  clear hs hE hT hK hsm hh htr hR hid hb hxs hys hn1 hno hct hnt hsv hov hN0
  go_enter Tryd.func24, Tryd.ntmps24
  go_upto_region 1 with fail
  have f4 := heap_alloc_new w (.cells ct.toArray 58 (0, 0))
  have b1 := (Below.refl w.heap.size w).alloc (Nat.le_refl _) (.cells ct.toArray 58 (0, 0))
  generalize hw1 : World.alloc _ _ = w1
  have e1 : w.alloc (.cells ct.toArray 58 (0, 0)) = w1 := hw1
  rw [e1] at f4 b1
  obtain ⟨g4, hg4⟩ : ∃ g4, g4 = w.heap.size := ⟨_, rfl⟩
  rw [← hg4] at f4 ⊢
  have F4 := Lib.hid f4
  have KS := Lib.hid ((Stand.refl w).below b1)
  have ST := Lib.hid (ST.out.below b1)
  clear f4 b1 hw1 e1 hg4
  go_wp2_with ((with_reducible show wpList _ _ _ _ _ _); (refine wpList_load_row rfl 58 (.tmp 4) rfl g4 rfl 58 ct.toArray (0, 0) _ F4.out Tryd.underlying58 rfl (by rw [LT.out]; kernel_rfl) ?_; go_frame))
  refine (BA.out w1 ST.out.kps).mono ?_
  rintro e w2 ⟨rfl, bb⟩
  have F4 := Lib.hid (row_below F4.out bb)
  have KS := Lib.hid (KS.out.below bb)
  have ST := Lib.hid (ST.out.below bb)
  clear bb
  go_wp2_with ((with_reducible show wpList _ _ _ _ _ _); (refine wpList_load_row rfl 58 (.tmp 4) rfl g4 rfl 58 ct.toArray (0, 0) _ F4.out Tryd.underlying58 rfl (by rw [LT.out]; kernel_rfl) ?_; go_frame))
  refine (SA.out w2 ST.out.kps).mono ?_
  rintro e w3 ⟨rfl, bb⟩
  have F4 := Lib.hid (row_below F4.out bb)
  have KS := Lib.hid (KS.out.below bb)
  have ST := Lib.hid (ST.out.below bb)
  clear bb BA SA
  go_wp2_with fail
  go_loopw [6, 23] (fun v6 vi wr => PuI1 w0 a m0 gw w l0 l xs n N0 g4 ct v6 vi wr) (fun _ i _ => n - (intOf i).toNat)
  case atStart => exact ⟨0, [], l, _, _, _, _, rfl, Nat.zero_le _, rfl, rfl, ST.out, TR.out, HN0.out, KS.out, F4.out, RwOwn.nil _ _ _ _, fun x hx => (by simp at hx), rfl⟩
  case round =>
    clear ST KS F4 HN0 TR
    obtain ⟨k, tk, l', m', vb', st', tv, rfl, hk, rfl, hfo, hst, htr, hsl, hks, hf4, hrw, hok, hlen⟩ := hrel
    have ST := Lib.hid hst
    have TR := Lib.hid htr
    have KS := Lib.hid hks
    have F4 := Lib.hid hf4
    have RW := Lib.hid hrw
    have OK := Lib.hid hok
    have FO := Lib.hid hfo
    have SL := Lib.hid hsl
    have TL := Lib.hid hlen
    clear hst htr hks hf4 hrw hok hfo hsl hlen
    by_cases hlt : k < n
    · skip
      obtain ⟨x, hx⟩ : ∃ x, xs[k]? = some x := ⟨_, List.getElem?_eq_getElem (by rw [← NX.out]; exact hlt)⟩
      obtain ⟨spi', capi', e0, _, hg0⟩ := TI.out wr ST.out.kps
      rw [← NX.out] at e0 hg0
      obtain ⟨rfl, rfl⟩ : spi = spi' ∧ capi = capi' := by cases e0; exact ⟨rfl, rfl⟩
      obtain ⟨bi, oi, rfl, hg⟩ := hg0 (by omega)
      obtain ⟨ox, kv, hkv, hr⟩ := hg k x hx
      have RX := Lib.hid hr
      have OX := Lib.hid ox
      have XK := Lib.hid hx
      have PX : Hid (PtOk (ptOf x)) := ⟨ox.1, ox.2.1⟩
      have LX : Hid ((inL x kv).length = 35) := inL_length x kv ox.1
      have LXS : Hid ((inL x kv).toArray.size = 35) := by show _ = _; rw [List.size_toArray]; exact LX.out
      have XA : Hid ((inL x kv).toArray.all (·.oneCell') = true) := in_one x kv (by obtain ⟨_, sp, cap, rfl⟩ := hkv; rfl)
      have KP : Hid (∀ (W : World) (g : Nat), W.heap[g]? = some (.cells (inL x kv).toArray 52 (0, 0)) → W.rangeAt g 0 (ptC (ptOf x))) := fun W g q => in_pt (range_of_box q)
      have LP : Hid ((ptC (ptOf x)).length = 33) := ptC_length PX.out
      have p0 : 0 ≤ (k : Int) := by omega
      have q0 : (k : Int) < (n : Int) := by omega
      obtain ⟨cx, hcx⟩ : ∃ cx, cx = inL x kv := ⟨_, rfl⟩
      rw [← hcx] at RX LX LXS XA KP
      obtain ⟨cp, hcp⟩ : ∃ cp, cp = ptC (ptOf x) := ⟨_, rfl⟩
      rw [← hcp] at KP LP
      have CP := Lib.hid hcp
      clear hx hg hg0 hkv hr ox e0 hcx hcp
      go_upto_region 5 with ((with_reducible show wpList _ _ _ _ _ _); first | (refine wpList_load_mid rfl 52 (.tmp 25) rfl bi (oi + k * 35) rfl cx _ RX.out Tryd.underlying52 rfl (by rw [LX.out]; kernel_rfl) ?_; go_frame) | (refine wpList_store_row rfl 52 (.tmp 10) (.tmp 26) rfl wr.heap.size cx.toArray rfl rfl 52 _ (heap_alloc_new _ _) (by rw [LXS.out]; kernel_rfl) (by rw [LXS.out]; rfl) XA.out ?_; go_frame))
      obtain ⟨_, f2, f3, f4⟩ := fill_setup (Below.refl wr.heap.size wr) (List.replicate 32 (bV 0) ++ [nV 0, .slice none 0 0, nV 0]).toArray cx.toArray 52
      generalize hqw4 : World.setRow _ _ _ = w4
      have ew4 : World.setRow (wr.alloc (.cells (List.replicate 32 (bV 0) ++ [nV 0, .slice none 0 0, nV 0]).toArray 52)) wr.heap.size cx.toArray = w4 := hqw4
      rw [ew4] at f2 f3 f4
      obtain ⟨g10, hg10⟩ : ∃ g10, g10 = wr.heap.size := ⟨_, rfl⟩
      rw [← hg10] at f2 ⊢
      have F10 := Lib.hid f2
      have Ng10 : Hid (wr.heap.size ≤ g10) := by show _ ≤ _; rw [hg10]; exact Nat.le_refl _
      have ST := Lib.hid (ST.out.below f4)
      have KS := Lib.hid (KS.out.below f4)
      have F4 := Lib.hid (row_below F4.out f4)
      have RW := Lib.hid (RW.out.keep f4)
      clear f2 f3 f4 hqw4 ew4 hg10
      clear Ng10 p0 q0
      have R10 := Lib.hid (KP.out _ _ F10.out)
      have SP := wyspend_any E w0 w4 a gw m0 m' l' vb' st' (ptOf x) HE.out ST.out PX.out (by have := SL.out; omega)
      unfold WyS at SP
      rw [← CP.out] at SP
      cases hg : getC l' (ptOf x) with
      | none =>
        rw [hg] at SP
        simp only [Option.getD_none, Option.isSome_none, Bool.false_eq_true, if_false] at SP
        have SP := Lib.hid SP
        have GE := Lib.hid hg
        clear hg
        go_wp2_with ((with_reducible show wpList _ _ _ _ _ _); (refine wpList_load_mid rfl 28 (.tmp 29) rfl g10 (0) rfl cp _ R10.out Tryd.underlying28 rfl (by rw [LP.out]; kernel_rfl) ?_; go_frame))
        refine SP.out.mono ?_
        rintro e w5 ⟨rfl, kf, vn, sn⟩
        rw [show errV E 13 = .iface 142 (.pointer (some (E 12))) from rfl]
        have KS := Lib.hid (KS.out.trans (ST.out.stays kf))
        have ST := Lib.hid sn
        clear kf sn SP
        have ZM : Hid ((mnL mnZ).toArray.size = 35) := by show _ = _; kernel_rfl
        go_wp2_with ((with_reducible show wpList _ _ _ _ _ _); (refine wpList_store_row rfl 31 (.tmp 11) (.tmp 32) rfl w5.heap.size (mnL mnZ).toArray rfl rfl 31 _ (heap_alloc_new _ _) (by rw [ZM.out]; kernel_rfl) (by rw [ZM.out]; rfl) (mnL_all _) ?_; go_frame))
        go_ret2
        obtain ⟨_, f2, f3, f4⟩ := fill_setup (Below.refl w5.heap.size w5) (mnL mnZ).toArray (mnL mnZ).toArray 31
        refine ⟨_, _, _, _, ST.out.below f4, by rw [delC_none GE.out]; exact TR.out, by have := SL.out; omega, KS.out.below f4, .inl ⟨12, PE1.out 13 (foldlM_stop _ XK.out FO.out ?_), rfl⟩⟩
        simp only [spStep, GE.out]
      | some c =>
        rw [hg] at SP
        simp only [Option.getD_some, Option.isSome_some, if_true] at SP
        have SP := Lib.hid SP
        have GE := Lib.hid hg
        have COK : Hid (MnOk c) := by
          have h := getD_ok ST.out.set.map.ok (ptOf x)
          rw [hg] at h
          exact h
        clear hg
        go_wp2_with ((with_reducible show wpList _ _ _ _ _ _); (refine wpList_load_mid rfl 28 (.tmp 29) rfl g10 (0) rfl cp _ R10.out Tryd.underlying28 rfl (by rw [LP.out]; kernel_rfl) ?_; go_frame))
        refine SP.out.mono ?_
        rintro e w5 ⟨rfl, kf, vn, sn⟩
        rw [show errV E 0 = .nilIface from rfl]
        have SD := Lib.hid (ST.out.stays kf)
        have KS := Lib.hid (KS.out.trans SD.out)
        have F4 := Lib.hid (SD.out.box F4.out (by decide) (by decide) (by decide))
        have F10 := Lib.hid (SD.out.box F10.out (by decide) (by decide) (by decide))
        have RW := Lib.hid (SD.out.row RW.out (by decide) (by decide) (by decide))
        have ST := Lib.hid sn
        clear kf sn SP SD R10
        have SOK : Hid (SpOk ⟨ptOf x, c⟩) := ⟨PX.out, COK.out⟩
        have ZM : Hid ((mnL c).toArray.size = 35) := mnL_size COK.out
        have MA : Hid ((mnL c).toArray.all (·.oneCell') = true) := mnL_all _
        have BT := Lib.hid (built_sp ⟨ptOf x, c⟩ SOK.out)
        have LS : Hid ((spL ⟨ptOf x, c⟩).length = 68) := spL_length SOK.out
        have LO : Hid (∀ v ∈ spL ⟨ptOf x, c⟩, v.oneCell' = true) := spL_one _
        have BT : Hid (Tryd.prog.built 33 [(0, .agg cp.toArray), (1, .agg (mnL c).toArray)] = some (spL ⟨ptOf x, c⟩).toArray) := by show _ = _; rw [CP.out]; exact BT.out
        obtain ⟨cm, hcm⟩ : ∃ cm, cm = mnL c := ⟨_, rfl⟩
        obtain ⟨cs, hcs⟩ : ∃ cs, cs = spL ⟨ptOf x, c⟩ := ⟨_, rfl⟩
        rw [← hcm] at ZM MA BT ⊢
        rw [← hcs] at BT LS LO
        have CSE := Lib.hid hcs
        clear hcm hcs
        go_upto_region 8 with ((with_reducible show wpList _ _ _ _ _ _); (refine wpList_store_row rfl 31 (.tmp 11) (.tmp 32) rfl w5.heap.size cm.toArray rfl rfl 31 _ (heap_alloc_new _ _) (by rw [ZM.out]; kernel_rfl) (by rw [ZM.out]; rfl) MA.out ?_; go_frame))
        obtain ⟨_, f2, f3, f4⟩ := fill_setup (Below.refl w5.heap.size w5) (mnL mnZ).toArray cm.toArray 31
        generalize hqw6 : World.setRow _ _ _ = w6
        have ew6 : World.setRow (w5.alloc (.cells (mnL mnZ).toArray 31)) w5.heap.size cm.toArray = w6 := hqw6
        rw [ew6] at f2 f3 f4
        obtain ⟨g11, hg11⟩ : ∃ g11, g11 = w5.heap.size := ⟨_, rfl⟩
        rw [← hg11] at f2 ⊢
        have F11 := Lib.hid f2
        have Ng11 : Hid (w5.heap.size ≤ g11) := by show _ ≤ _; rw [hg11]; exact Nat.le_refl _
        have ST := Lib.hid (ST.out.below f4)
        have KS := Lib.hid (KS.out.below f4)
        have F4 := Lib.hid (row_below F4.out f4)
        have F10 := Lib.hid (row_below F10.out f4)
        have RW := Lib.hid (RW.out.keep f4)
        clear f2 f3 f4 hqw6 ew6 hg11
        clear Ng11
        have R10 := Lib.hid (KP.out _ _ F10.out)
        have RWP := Lib.hid RW.out.1
        have RWK : Hid (∀ k, tv.ownBlock = some k → w.heap.size ≤ k) := fun q hq => (RW.out.1.lt q hq).1
        have RWZ : Hid (w0.heap.size ≤ w.heap.size) := WZ.out
        have FAR4 : Hid (tv.ownBlock ≠ some g4) := own_ne RW.out.1 F4.out (by decide)
        have DL : Hid ((tk.map spL).length ≤ 1000000) := by show _ ≤ _; rw [List.length_map, TL.out]; omega
        go_wp2_with ((with_reducible show wpList _ _ _ _ _ _); first | (refine wpList_load_mid rfl 28 (.tmp 38) rfl g10 (0) rfl cp _ R10.out Tryd.underlying28 rfl (by rw [LP.out]; kernel_rfl) ?_; go_frame) | (refine wpList_load_row rfl 31 (.tmp 11) rfl g11 rfl 31 cm.toArray (0, 0) _ F11.out Tryd.underlying31 rfl (by rw [ZM.out]; kernel_rfl) ?_; go_frame) | (refine wpList_buildTo rfl 33 _ rfl _ rfl cs.toArray (by rw [← BT.out]; kernel_rfl) ?_; go_frame) | (refine wpList_slice_one rfl 22 33 (.tmp 41) rfl cs rfl Tryd.underlying22 i0 _ hi hz0 (by rw [hz1, LS.out]) (by rw [LS.out]; omega) (by rw [LS.out]; omega) ?_; have nf := heap_alloc_new w6 (.cells (cs).toArray 33 (0, 0)); have bb := (Below.refl w6.heap.size w6).alloc (Nat.le_refl _) (.cells (cs).toArray 33 (0, 0)); obtain ⟨gn, hgn⟩ : ∃ g, g = w6.heap.size := ⟨_, rfl⟩; generalize hq : World.alloc _ _ = w7; have e2 : w6.alloc (.cells (cs).toArray 33 (0, 0)) = w7 := hq; rw [e2] at nf bb; rw [← hgn] at nf ⊢; have NF := Lib.hid nf; have ST := Lib.hid (ST.out.below bb); have KS := Lib.hid (KS.out.below bb); have F4 := Lib.hid (row_below F4.out bb); have RW := Lib.hid (RW.out.keep bb); clear nf bb hq e2 hgn; go_frame) | (go_loud (at_builtin; refine wpList_append_own_at _ rfl _ _ 22 rfl (w.heap.size) 33 i0 (.agg (spL ⟨⟨List.replicate 32 0, 0⟩, mnZ⟩).toArray) 68 96 Tryd.underlying22 hi hz0 hz1 hz2 (by kernel_rfl) (by decide) tv _ (tk.map spL).flatten rfl RW.out.1 ⟨gn, 0, none⟩ 1 1 (cs) rfl (by rw [LS.out]) (fun j u hj => by rw [Addr.add_mid]; exact range_of_box NF.out j u hj) LO.out (by have := DL.out; unfold maxLen; omega) (by have := DL.out; omega) (KS.out.1) ?_; intro v8 w8 q1 q2 _ q4; have RW8 : Hid (RwOwn 68 33 (w.heap.size) w8 v8 ((tk.map spL) ++ [cs])) := RwOwn.push RW.out.2 LS.out q1; have ST8 := Lib.hid (ST.out.grownRow RW.out.1 RWZ.out q2); have KS8 := Lib.hid (KS.out.grown q2 RWK.out); have F48 := Lib.hid (row_far F4.out q2 FAR4.out); clear q1 q2 q4; go_frame)))
        go_roundw
        case rel =>
          refine ⟨k + 1, tk ++ [⟨ptOf x, c⟩], delC l' (ptOf x), _, _, _, _, rfl, by omega, by go_num, foldlM_on _ XK.out FO.out (by simp only [spStep, GE.out]), ST8.out, Tr.spend TR.out GE.out, (by rw [List.length_append]; have := SL.out; simp; omega), KS8.out, F48.out, ?_, ?_, ?_⟩
          · have h := RW8.out
            rw [CSE.out] at h
            rw [List.map_append]
            exact h
          · intro y hy
            rcases List.mem_append.1 hy with hy | hy
            · exact OK.out y hy
            · rw [List.mem_singleton.1 hy]; exact SOK.out
          · rw [List.length_append, TL.out]; rfl
        case measure => simp [intOf]; omega
    · skip
      have hkn : k = n := by omega
      subst hkn
      have FO : Hid (xs.foldlM spStep ([], l) = .ok (tk, l')) := by
        have h := FO.out
        rw [NX.out, List.take_length] at h
        exact h
      clear hlt TI PE1
      go_wp2_with ((with_reducible show wpList _ _ _ _ _ _); (refine wpList_load_row rfl 58 (.tmp 4) rfl g4 rfl 58 ct.toArray (0, 0) _ F4.out Tryd.underlying58 rfl (by rw [LT.out]; kernel_rfl) ?_; go_frame))
      refine (IA.out wr ST.out.kps).mono ?_
      rintro e w2 ⟨rfl, bb⟩
      have F4 := Lib.hid (row_below F4.out bb)
      have KS := Lib.hid (KS.out.below bb)
      have ST := Lib.hid (ST.out.below bb)
      have RW := Lib.hid (RW.out.keep bb)
      clear bb IA
      have LID2 : Hid ((id.map bV).length = 32) := by show _ = _; rw [List.length_map]; exact LID.out
      have LIDS : Hid ((id.map bV).toArray.size = 32) := by show _ = _; rw [List.size_toArray]; exact LID2.out
      have IDA : Hid ((id.map bV).toArray.all (·.oneCell') = true) := bV_one _
      obtain ⟨ci, hci⟩ : ∃ ci, ci = id.map bV := ⟨_, rfl⟩
      have CI := Lib.hid hci
      rw [← hci] at LID2 LIDS IDA ⊢
      clear hci
      go_upto_region 11 with ((with_reducible show wpList _ _ _ _ _ _); (refine wpList_store_row rfl 25 (.tmp 13) (.tmp 46) rfl w2.heap.size ci.toArray rfl rfl 25 _ (heap_alloc_new _ _) (by rw [LIDS.out]; kernel_rfl) (by rw [LIDS.out]; rfl) IDA.out ?_; go_frame))
      obtain ⟨_, f2, f3, f4⟩ := fill_setup (Below.refl w2.heap.size w2) (List.replicate 32 (bV 0)).toArray ci.toArray 25
      generalize hqw3 : World.setRow _ _ _ = w3
      have ew3 : World.setRow (w2.alloc (.cells (List.replicate 32 (bV 0)).toArray 25)) w2.heap.size ci.toArray = w3 := hqw3
      rw [ew3] at f2 f3 f4
      obtain ⟨g13, hg13⟩ : ∃ g13, g13 = w2.heap.size := ⟨_, rfl⟩
      rw [← hg13] at f2 ⊢
      have F13 := Lib.hid f2
      have Ng13 : Hid (w2.heap.size ≤ g13) := by show _ ≤ _; rw [hg13]; exact Nat.le_refl _
      have ST := Lib.hid (ST.out.below f4)
      have KS := Lib.hid (KS.out.below f4)
      have F4 := Lib.hid (row_below F4.out f4)
      have RW := Lib.hid (RW.out.keep f4)
      clear f2 f3 f4 hqw3 ew3 hg13
      clear Ng13
      have co := CO.out _ _ F4.out
      have F13' : Hid (w3.heap[g13]? = some (.cells (id.map bV).toArray 25 (0, 0))) := by rw [← CI.out]; exact F13.out
      go_wp2_with fail
      clear co
      obtain ⟨N1, hN1⟩ : ∃ N1, N1 = N0 + k := ⟨_, rfl⟩
      have SL1 : Hid (st'.length ≤ N1 + 0) := by show _ ≤ _; have := SL.out; omega
      have HN1 := Lib.hid hN1
      clear hN1
      go_loopw [6, 50] (fun v6 vi wr => PuI2 w0 a m0 gw w l0 l' id ht b ys.zipIdx no N1 g13 tv tk v6 vi wr) (fun _ i _ => no - (intOf i).toNat)
      case atStart => exact ⟨0, l', _, _, _, rfl, Nat.zero_le _, rfl, rfl, ST.out, TR.out, SL1.out, KS.out, F13'.out, RW.out⟩
      case round =>
        clear ST KS F4 TR F13 F13' RW SL1 SL
        obtain ⟨j, l2, m2, vb2, st2, rfl, hj, rfl, hfo, hst, htr, hsl, hks, hf13, hrw⟩ := hrel
        have ST := Lib.hid hst
        have TR := Lib.hid htr
        have KS := Lib.hid hks
        have F13 := Lib.hid hf13
        have RW := Lib.hid hrw
        have FO2 := Lib.hid hfo
        have SL := Lib.hid hsl
        clear hst htr hks hf13 hrw hfo hsl
        by_cases hlt : j < no
        · skip
          obtain ⟨y, hy⟩ : ∃ y, ys[j]? = some y := ⟨_, List.getElem?_eq_getElem (by rw [← NO.out]; exact hlt)⟩
          obtain ⟨spo', capo', e0, _, hg0⟩ := TO.out wr ST.out.kps
          rw [← NO.out] at e0 hg0
          obtain ⟨rfl, rfl⟩ : spo = spo' ∧ capo = capo' := by cases e0; exact ⟨rfl, rfl⟩
          obtain ⟨bi, oi, rfl, hg⟩ := hg0 (by omega)
          obtain ⟨oy, hr⟩ := hg j y hy
          have RX := Lib.hid hr
          have OY := Lib.hid oy
          have ZK : Hid (ys.zipIdx[j]? = some (y, j)) := by show _ = _; rw [List.getElem?_zipIdx, hy]; simp
          have LX : Hid ((outL y).length = 33) := outL_length y oy.1
          have LXS : Hid ((outL y).toArray.size = 33) := by show _ = _; rw [List.size_toArray]; exact LX.out
          have XA : Hid ((outL y).toArray.all (·.oneCell') = true) := out_one y
          have KV : Hid (∀ (W : World) (g : Nat), W.heap[g]? = some (.cells (outL y).toArray 55 (0, 0)) → W.cell? ⟨g, 0, none⟩ = some (.int .u64 (y.val : Int))) := fun W g q => out_val (range_of_box q)
          have KL : Hid (∀ (W : World) (g : Nat), W.heap[g]? = some (.cells (outL y).toArray 55 (0, 0)) → W.rangeAt g 1 (y.lock.map bV)) := fun W g q => by
            have := out_lock (range_of_box q)
            rwa [Nat.zero_add] at this
          have LL : Hid ((y.lock.map bV).length = 32) := by show _ = _; rw [List.length_map]; exact oy.1
          have COK : Hid (MnOk (coinO ht b y)) := ⟨oy.1, oy.2, HH.out.1, HH.out.2⟩
          have PX : Hid (PtOk ⟨id, j⟩) := ⟨LID.out, by show j ≤ _; omega⟩
          have BM : Hid (Tryd.prog.built 31 [(0, .int .u64 (y.val : Int)), (1, .agg (y.lock.map bV).toArray), (2, .int .i64 ht), (3, .bool b)] = some (mnL (coinO ht b y)).toArray) := built_mn (coinO ht b y) COK.out
          have BP : Hid (Tryd.prog.built 28 [(0, .agg ci.toArray), (1, .int .u32 (j : Int))] = some (ptC ⟨id, j⟩).toArray) := by show _ = _; rw [CI.out]; exact built_pt id j LID.out
          have F13 : Hid (wr.heap[g13]? = some (.cells ci.toArray 25 (0, 0))) := by show _ = _; rw [CI.out]; exact F13.out
          have ZM : Hid ((mnL (coinO ht b y)).toArray.size = 35) := mnL_size COK.out
          have MA : Hid ((mnL (coinO ht b y)).toArray.all (·.oneCell') = true) := mnL_all _
          have p0 : 0 ≤ (j : Int) := by omega
          have q0 : (j : Int) < (no : Int) := by omega
          have wj : IntKind.u32.wrap (j : Int) = (j : Int) := by rw [IntKind.wrap_u32]; omega
          have WJ := Lib.hid wj
          obtain ⟨cx, hcx⟩ : ∃ cx, cx = outL y := ⟨_, rfl⟩
          rw [← hcx] at RX LX LXS XA KV KL
          obtain ⟨cl, hcl⟩ : ∃ cl, cl = y.lock.map bV := ⟨_, rfl⟩
          rw [← hcl] at KL LL BM
          obtain ⟨cm, hcm⟩ : ∃ cm, cm = mnL (coinO ht b y) := ⟨_, rfl⟩
          rw [← hcm] at BM ZM MA
          have CME := Lib.hid hcm
          obtain ⟨cp, hcp⟩ : ∃ cp, cp = ptC ⟨id, j⟩ := ⟨_, rfl⟩
          rw [← hcp] at BP
          have CPE := Lib.hid hcp
          obtain ⟨yv, hyv⟩ : ∃ yv, yv = y.val := ⟨_, rfl⟩
          rw [← hyv] at KV BM
          clear hy hg hg0 hr oy e0 hcx hcl hcm hcp hyv wj
          go_upto_region 14 with ((with_reducible show wpList _ _ _ _ _ _); first | (refine wpList_load_mid rfl 55 (.tmp 53) rfl bi (oi + j * 33) rfl cx _ RX.out Tryd.underlying55 rfl (by rw [LX.out]; kernel_rfl) ?_; go_frame) | (refine wpList_store_row rfl 55 (.tmp 15) (.tmp 54) rfl wr.heap.size cx.toArray rfl rfl 55 _ (heap_alloc_new _ _) (by rw [LXS.out]; kernel_rfl) (by rw [LXS.out]; rfl) XA.out ?_; go_frame))
          obtain ⟨_, f2, f3, f4⟩ := fill_setup (Below.refl wr.heap.size wr) (uV 0 :: List.replicate 32 (bV 0)).toArray cx.toArray 55
          generalize hqw4 : World.setRow _ _ _ = w4
          have ew4 : World.setRow (wr.alloc (.cells (uV 0 :: List.replicate 32 (bV 0)).toArray 55)) wr.heap.size cx.toArray = w4 := hqw4
          rw [ew4] at f2 f3 f4
          obtain ⟨g15, hg15⟩ : ∃ g15, g15 = wr.heap.size := ⟨_, rfl⟩
          rw [← hg15] at f2 ⊢
          have F15 := Lib.hid f2
          have Ng15 : Hid (wr.heap.size ≤ g15) := by show _ ≤ _; rw [hg15]; exact Nat.le_refl _
          have ST := Lib.hid (ST.out.below f4)
          have KS := Lib.hid (KS.out.below f4)
          have F13 := Lib.hid (row_below F13.out f4)
          have RW := Lib.hid (RW.out.keep f4)
          clear f2 f3 f4 hqw4 ew4 hg15
          clear Ng15 p0 q0
          have kv := KV.out _ _ F15.out
          have R15 := Lib.hid (KL.out _ _ F15.out)
          go_upto_region 15 with ((with_reducible show wpList _ _ _ _ _ _); first | (refine wpList_load_mid rfl 25 (.tmp 57) rfl g15 (1) rfl cl _ R15.out Tryd.underlying25 rfl (by rw [LL.out]; kernel_rfl) ?_; go_frame) | (refine wpList_buildTo rfl 31 _ rfl _ rfl cm.toArray (by rw [← BM.out]; kernel_rfl) ?_; go_frame) | (refine wpList_store_row rfl 31 (.tmp 16) (.tmp 61) rfl w4.heap.size cm.toArray rfl rfl 31 _ (heap_alloc_new _ _) (by rw [ZM.out]; kernel_rfl) (by rw [ZM.out]; rfl) MA.out ?_; go_frame))
          obtain ⟨_, f2, f3, f4⟩ := fill_setup (Below.refl w4.heap.size w4) (mnL mnZ).toArray cm.toArray 31
          generalize hqw5 : World.setRow _ _ _ = w5
          have ew5 : World.setRow (w4.alloc (.cells (mnL mnZ).toArray 31)) w4.heap.size cm.toArray = w5 := hqw5
          rw [ew5] at f2 f3 f4
          obtain ⟨g16, hg16⟩ : ∃ g16, g16 = w4.heap.size := ⟨_, rfl⟩
          rw [← hg16] at f2 ⊢
          have F16 := Lib.hid f2
          have Ng16 : Hid (w4.heap.size ≤ g16) := by show _ ≤ _; rw [hg16]; exact Nat.le_refl _
          have ST := Lib.hid (ST.out.below f4)
          have KS := Lib.hid (KS.out.below f4)
          have F13 := Lib.hid (row_below F13.out f4)
          have RW := Lib.hid (RW.out.keep f4)
          clear f2 f3 f4 hqw5 ew5 hg16
          clear Ng16 kv R15
          have SP := wyadd_any E w0 w5 a gw m0 m2 l2 vb2 st2 ⟨id, j⟩ (coinO ht b y) HE.out ST.out PX.out COK.out (by have := SL.out; have := HN1.out; omega)
          unfold WyA at SP
          rw [← CPE.out, ← CME.out] at SP
          have wj : IntKind.u32.wrap (j : Int) = (j : Int) := WJ.out
          obtain ⟨r, hr⟩ : ∃ r, r = addR l2 ⟨id, j⟩ (coinO ht b y) := ⟨_, rfl⟩
          rw [← hr] at SP
          have RE := Lib.hid hr
          have RC : Hid (r = 0 ∨ r = 5 ∨ r = 6) := by rw [hr]; exact addR_cases _ _ _
          have SP := Lib.hid SP
          clear hr
          go_wp2_with ((with_reducible show wpList _ _ _ _ _ _); first | (refine wpList_load_row rfl 25 (.tmp 13) rfl g13 rfl 25 ci.toArray (0, 0) _ F13.out Tryd.underlying25 rfl (by rw [LIDS.out]; kernel_rfl) ?_; go_frame) | (refine wpList_buildTo rfl 28 _ rfl _ rfl cp.toArray (by rw [← BP.out]; kernel_rfl) ?_; go_frame) | (refine wpList_load_row rfl 31 (.tmp 16) rfl g16 rfl 31 cm.toArray (0, 0) _ F16.out Tryd.underlying31 rfl (by rw [ZM.out]; kernel_rfl) ?_; go_frame))
          refine SP.out.mono ?_
          rintro e w6 ⟨rfl, kf, mn, vn, sn⟩
          have SD := Lib.hid (ST.out.stays kf)
          have KS := Lib.hid (KS.out.trans SD.out)
          have F13 := Lib.hid (SD.out.box F13.out (by decide) (by decide) (by decide))
          have RW := Lib.hid (SD.out.row RW.out (by decide) (by decide) (by decide))
          have ST := Lib.hid sn
          clear kf sn SP SD wj
          cases r with
          | zero =>
            rw [show errV E 0 = .nilIface from rfl]
            have ST := Lib.hid ST.out
            go_wp2_with fail
            go_roundw
            case rel =>
              have hs := ST.out
              first | rw [if_pos rfl] at hs | rw [if_pos trivial] at hs | skip
              rw [show addL l2 ⟨id, j⟩ (coinO ht b y) = l2 ++ [⟨⟨id, j⟩, coinO ht b y⟩] from by rw [addL, if_pos RE.out.symm]] at hs
              refine ⟨j + 1, _, _, _, _, rfl, by omega, by go_num, foldlM_on _ ZK.out FO2.out (by rw [adStep, if_pos RE.out.symm]), hs, Tr.add TR.out RE.out.symm, (by rw [List.length_append]; have := SL.out; simp; omega), KS.out, (by rw [← CI.out]; exact F13.out), RW.out⟩
            case measure => simp [intOf]; omega
          | succ r =>
            rw [show errV E (r + 1) = .iface 142 (.pointer (some (E r))) from rfl]
            go_wp2_with fail
            go_ret2
            have hs := ST.out
            rw [if_neg (by omega), addL, if_neg (by rw [← RE.out]; omega)] at hs
            exact ⟨_, _, _, _, hs, TR.out, by have := SL.out; have := HN1.out; omega, KS.out, .inl ⟨r, PE2.out (tk, l') (r + 1) FO.out (foldlM_stop _ ZK.out FO2.out (by rw [adStep, if_neg (by rw [← RE.out]; omega), ← RE.out])), rfl⟩⟩
        · skip
          obtain rfl : j = no := by omega
          go_wp2_with fail
          go_ret2
          refine ⟨_, _, _, _, ST.out, TR.out, by have := SL.out; have := HN1.out; omega, KS.out, .inr ⟨tk, _, PE3.out (tk, l') l2 FO.out ?_, rfl, RW.out, OK.out, by rw [TL.out]; omega⟩⟩
          have h := FO2.out
          rw [List.take_of_length_le (by rw [List.length_zipIdx, ← NO.out]; exact Nat.le_refl _)] at h
          exact h
end Go.Proofs.YtibfamhhjnaeiaaDoor.Sha

/-
  A row put behind an own one, whatever stands in either. No conditions beyond those that each states.
-/
namespace Go.Proofs.YtibfamhhjnaeiaaDoor.Sha
open Go Go.RowKit
theorem RwAt.flat {k : Nat} {w : World} {b o : Nat} {L : List (List Value)} (ha : AllK k L) (h : ∀ i x, L[i]? = some x → w.rangeAt b (o + i * k) x) : w.rangeAt b o L.flatten := by
  intro j u hj
  have hjl := (List.getElem?_eq_some_iff.1 hj).1
  rw [flatten_length L ha] at hjl
  have hk : 0 < k := by
    rcases Nat.eq_zero_or_pos k with h0 | h0
    · rw [h0, Nat.mul_zero] at hjl; omega
    · exact h0
  have hq : j / k < L.length := Nat.div_lt_of_lt_mul (by rw [Nat.mul_comm]; exact hjl)
  obtain ⟨x, hx⟩ : ∃ x, L[j / k]? = some x := ⟨_, List.getElem?_eq_getElem hq⟩
  have hm := Nat.div_add_mod j k
  have hr := Nat.mod_lt j hk
  have h1 := flatten_get L (j / k) x ha hx (j % k) hr
  rw [Nat.mul_comm] at hm
  rw [hm, hj] at h1
  have h2 := h (j / k) x hx (j % k) u h1.symm
  rwa [Nat.add_assoc, hm] at h2
/-- A row put behind an own one, whatever stands in either. -/
theorem wp_append_rw (w : World) {op : Oper} {a : Act} {K : Act → World → Prop} {Q : Exit → Act → World → Prop} (s x : Operand) (t : TypeId)
    (hop : op.op = Op.call { callee := Callee.builtin Builtin.append, args := #[s, x], argTypes := #[t, t] })
    (base : Nat) (e : TypeId) (i : TypeInfo) (z : Value) (k bytes : Nat) (h1 : Tryd.prog.underlying t = some (.slice e)) (h2 : Tryd.prog.info? e = some i) (hz : i.zero = some z) (hk : i.size = k) (hb : i.bytes = bytes) (hzs : z.cells.size = k) (hk0 : 0 < k)
    (v : Value) (L : List (List Value)) (hs : a.eval s = v) (hown : RwOwn k e base w v L) (y : Value) (M : List (List Value)) (hx : a.eval x = y) (hsrc : RwAt k w y M) (hone : ∀ m ∈ M, ∀ u ∈ m, u.oneCell' = true)
    (hlen : (L.length + M.length) * bytes ≤ 140737488355328) (hmax : L.length + M.length ≤ maxLen) (hbase : base ≤ w.heap.size)
    (hK : ∀ v' w', RwOwn k e base w' v' (L ++ M) → w.grownBy w' v.ownBlock → K (a.put op.dst v') w') : op.wp Tryd.prog a w K Q := by
  obtain ⟨hM, sp, cap, rfl, hc, hr⟩ := hsrc
  cases M with
  | nil =>
    have hrun := run_append_any0 (P := Tryd.prog) (w := w) base t op.type e i h1 h2 v L.length L.flatten (by rw [hk]; exact hown.1) sp cap
    unfold Oper.wp
    simp [execOp, hop, resolve, invoke, builtin, hs, hx, hrun, Result.andThen]
    refine hK v w ?_ (grownBy_refl _ _)
    rw [List.append_nil]
    exact hown
  | cons m M =>
    obtain ⟨b, o, rfl, hr2⟩ := hr (by simp)
    have hf := RwAt.flat hM hr2
    obtain ⟨v', w', hrun, a1, a2, _, _⟩ := run_append_own_at (P := Tryd.prog) w base t op.type e i z k bytes h1 h2 hz hk hb hzs hk0 v L.length L.flatten hown.1 ⟨b, o, none⟩ (m :: M).length cap (m :: M).flatten (flatten_length _ hM)
      (fun j u hu => by rw [Addr.add_mid]; exact hf j u hu) (fun u hu => by
        obtain ⟨q, hq, hu⟩ := List.mem_flatten.1 hu
        exact hone q hq u hu) hmax hlen hbase
    unfold Oper.wp execOp
    simp only [hop, resolve, invoke, builtin, Sem.run_bind, Sem.run_pure, Result.andThen_ok, List.map_toArray, List.map_cons, List.map_nil, hs, hx, hrun]
    refine hK v' w' ⟨?_, fun q hq => ?_⟩ a2
    · rw [List.length_append, List.flatten_append]
      exact a1
    · rcases List.mem_append.1 hq with h | h
      · exact hown.2 q h
      · exact hM q h
theorem wpList_append_rw (w : World) {ops : Array Oper} {rest : List Oper} {op : Oper} {a : Act} {Q : Exit → Act → World → Prop} (hg : op.guard = none) (s x : Operand) (t : TypeId)
    (hop : op.op = Op.call { callee := Callee.builtin Builtin.append, args := #[s, x], argTypes := #[t, t] })
    (base : Nat) (e : TypeId) (i : TypeInfo) (z : Value) (k bytes : Nat) (h1 : Tryd.prog.underlying t = some (.slice e)) (h2 : Tryd.prog.info? e = some i) (hz : i.zero = some z) (hk : i.size = k) (hb : i.bytes = bytes) (hzs : z.cells.size = k) (hk0 : 0 < k)
    (v : Value) (L : List (List Value)) (hs : a.eval s = v) (hown : RwOwn k e base w v L) (y : Value) (M : List (List Value)) (hx : a.eval x = y) (hsrc : RwAt k w y M) (hone : ∀ m ∈ M, ∀ u ∈ m, u.oneCell' = true)
    (hlen : (L.length + M.length) * bytes ≤ 140737488355328) (hmax : L.length + M.length ≤ maxLen) (hbase : base ≤ w.heap.size)
    (hK : ∀ v' w', RwOwn k e base w' v' (L ++ M) → w.grownBy w' v.ownBlock → wpList Tryd.prog ops Q rest (a.put op.dst v') w') : wpList Tryd.prog ops Q (op :: rest) a w :=
  wpList_plain hg fun _ hK' => wp_append_rw w s x t hop base e i z k bytes h1 h2 hz hk hb hzs hk0 v L hs hown y M hx hsrc hone hlen hmax hbase fun v' w' q1 q2 => hK' _ _ (hK v' w' q1 q2)
end Go.Proofs.YtibfamhhjnaeiaaDoor.Sha

/-
  Plain mathematics of a block's header: its bytes; read out of bytes it is what was written, cut off it ends too early, longer it has another shape; any 80 bytes are one header's. No conditions beyond those that each states.
-/
namespace Go.Proofs.YtibfamhhjnaeiaaDoor.Sha
open Go Go.RowKit
structure THd where
  ver : Nat
  prev : List UInt8
  root : List UInt8
  time : Nat
  work : Nat
  nonce : Nat
def HdOk (h : THd) : Prop := h.ver ≤ 4294967295 ∧ h.prev.length = 32 ∧ h.root.length = 32 ∧ h.time ≤ 4294967295 ∧ h.work ≤ 4294967295 ∧ h.nonce ≤ 4294967295
/-- A header's bytes. -/
def hdB (h : THd) : List UInt8 := leB h.ver 4 ++ h.prev ++ h.root ++ leB h.time 4 ++ leB h.work 4 ++ leB h.nonce 4
def hdP : Par THd := thenP (leP 4) fun v => thenP (takeL 32) fun p => thenP (takeL 32) fun r => thenP (leP 4) fun t => thenP (leP 4) fun w => mapP (fun n => ⟨v, padH p, padH r, t, w, n⟩) (leP 4)
def noHd : THd := ⟨0, List.replicate 32 0, List.replicate 32 0, 0, 0, 0⟩
/-- A header out of a Reader: none where an error was met. -/
def takeHd (bs : List UInt8) (c : Nat) : THd × List UInt8 × Nat := if (hdP bs c).2.2 = 0 then hdP bs c else (noHd, (hdP bs c).2)
/-- Bytes as a header, or what is amiss. -/
def readHd (bs : List UInt8) : THd × Nat := if (hdP bs 0).2.2 ≠ 0 then (noHd, (hdP bs 0).2.2) else if (hdP bs 0).2.1 ≠ [] then (noHd, 2) else ((hdP bs 0).1, 0)
theorem padH_all {x : List UInt8} (h : x.length = 32) : padH x = x := by unfold padH; rw [h]; simp
theorem hdB_length {h : THd} (hh : HdOk h) : (hdB h).length = 80 := by
  simp only [hdB, List.length_append, leB_length, hh.2.1, hh.2.2.1]
theorem stay_hd : Stay hdP := (stay_le 4).andThen fun _ => (stay_take 32).andThen fun _ => (stay_take 32).andThen fun _ => (stay_le 4).andThen fun _ => (stay_le 4).andThen fun _ => (stay_le 4).map _
theorem good_hd (h : THd) (hh : HdOk h) : Good hdP h (hdB h) := by
  obtain ⟨h1, h2, h3, h4, h5, h6⟩ := hh
  obtain ⟨a, b, c, d, e, f⟩ := h
  simp only at h1 h2 h3 h4 h5 h6
  have g := (good_le a 4 (by omega)).andThen (q := fun v => thenP (takeL 32) fun p => thenP (takeL 32) fun r => thenP (leP 4) fun t => thenP (leP 4) fun w => mapP (fun n => (⟨v, padH p, padH r, t, w, n⟩ : THd)) (leP 4))
    ((good_take b 32 h2).andThen (q := fun p => thenP (takeL 32) fun r => thenP (leP 4) fun t => thenP (leP 4) fun w => mapP (fun n => (⟨a, padH p, padH r, t, w, n⟩ : THd)) (leP 4))
      ((good_take c 32 h3).andThen (q := fun r => thenP (leP 4) fun t => thenP (leP 4) fun w => mapP (fun n => (⟨a, padH b, padH r, t, w, n⟩ : THd)) (leP 4))
        ((good_le d 4 (by omega)).andThen (q := fun t => thenP (leP 4) fun w => mapP (fun n => (⟨a, padH b, padH c, t, w, n⟩ : THd)) (leP 4))
          ((good_le e 4 (by omega)).andThen (q := fun w => mapP (fun n => (⟨a, padH b, padH c, d, w, n⟩ : THd)) (leP 4))
            ((good_le f 4 (by omega)).map _) (fun _ => (stay_le 4).map _)) (fun _ => (stay_le 4).andThen fun _ => (stay_le 4).map _))
          (fun _ => (stay_le 4).andThen fun _ => (stay_le 4).andThen fun _ => (stay_le 4).map _))
        (fun _ => (stay_take 32).andThen fun _ => (stay_le 4).andThen fun _ => (stay_le 4).andThen fun _ => (stay_le 4).map _))
      (fun _ => (stay_take 32).andThen fun _ => (stay_take 32).andThen fun _ => (stay_le 4).andThen fun _ => (stay_le 4).andThen fun _ => (stay_le 4).map _)
  rw [padH_all h2, padH_all h3] at g
  simp only [hdB, List.append_assoc]
  exact g
/-- What was written is read again. -/
theorem hd_own {h : THd} (hh : HdOk h) : readHd (hdB h) = (h, 0) := by
  have g := (good_hd h hh).1 []
  rw [List.append_nil] at g
  unfold readHd
  rw [g]
  rfl
theorem hd_take {h : THd} (hh : HdOk h) (y : List UInt8) : takeHd (hdB h ++ y) 0 = (h, y, 0) := by
  unfold takeHd
  rw [(good_hd h hh).1 y, if_pos rfl]
/-- Cut off, it ends too early. -/
theorem hd_cut {h : THd} (hh : HdOk h) {k : Nat} (hk : k < 80) : readHd ((hdB h).take k) = (noHd, 1) := by
  have g := (good_hd h hh).2 k (by rw [hdB_length hh]; exact hk)
  unfold readHd
  rw [g, if_pos (by omega)]
/-- Longer, it has another shape. -/
theorem hd_long {h : THd} (hh : HdOk h) {y : List UInt8} (hy : y ≠ []) : readHd (hdB h ++ y) = (noHd, 2) := by
  unfold readHd
  rw [(good_hd h hh).1 y, if_neg (by simp), if_pos hy]
/-- Any 80 bytes are one header's. -/
theorem hd_all (b : List UInt8) (hb : b.length = 80) : ∃ h, HdOk h ∧ hdB h = b := by
  have cut : ∀ (l : List UInt8) (k : Nat), k ≤ l.length → ∃ x y, l = x ++ y ∧ x.length = k := fun l k hk => ⟨l.take k, l.drop k, (List.take_append_drop k l).symm, by rw [List.length_take]; omega⟩
  obtain ⟨x1, y1, e1, l1⟩ := cut b 4 (by omega)
  have s1 : y1.length = 76 := by have := congrArg List.length e1; rw [List.length_append] at this; omega
  obtain ⟨x2, y2, e2, l2⟩ := cut y1 32 (by omega)
  have s2 : y2.length = 44 := by have := congrArg List.length e2; rw [List.length_append] at this; omega
  obtain ⟨x3, y3, e3, l3⟩ := cut y2 32 (by omega)
  have s3 : y3.length = 12 := by have := congrArg List.length e3; rw [List.length_append] at this; omega
  obtain ⟨x4, y4, e4, l4⟩ := cut y3 4 (by omega)
  have s4 : y4.length = 8 := by have := congrArg List.length e4; rw [List.length_append] at this; omega
  obtain ⟨x5, y5, e5, l5⟩ := cut y4 4 (by omega)
  have s5 : y5.length = 4 := by have := congrArg List.length e5; rw [List.length_append] at this; omega
  have lt : ∀ x : List UInt8, x.length = 4 → leN x ≤ 4294967295 ∧ leB (leN x) 4 = x := fun x hx => by
    have h1 := leN_lt x
    have h2 := leB_leN x
    rw [hx] at h1 h2
    exact ⟨by omega, h2⟩
  refine ⟨⟨leN x1, x2, x3, leN x4, leN x5, leN y5⟩, ⟨(lt x1 l1).1, l2, l3, (lt x4 l4).1, (lt x5 l5).1, (lt y5 s5).1⟩, ?_⟩
  simp only [hdB, (lt x1 l1).2, (lt x4 l4).2, (lt x5 l5).2, (lt y5 s5).2, List.append_assoc]
  rw [← e5, ← e4, ← e3, ← e2, ← e1]
theorem hd_inj {h g : THd} (hh : HdOk h) (hg : HdOk g) (e : hdB h = hdB g) : h = g := by
  have h1 := hd_own hh
  rw [e, hd_own hg] at h1
  exact (Prod.mk.inj h1).1.symm
/-- What is read has just these bytes. -/
theorem hd_back {b : List UInt8} (hb : b.length = 80) : HdOk (readHd b).1 ∧ hdB (readHd b).1 = b ∧ (readHd b).2 = 0 := by
  obtain ⟨h, hh, rfl⟩ := hd_all b hb
  rw [hd_own hh]
  exact ⟨hh, rfl, rfl⟩
end Go.Proofs.YtibfamhhjnaeiaaDoor.Sha

/-
  A block's header as the model has it: 68 cells; where its parts lie. Conditions: digests of 32 bytes.
-/
namespace Go.Proofs.YtibfamhhjnaeiaaDoor.Sha
open Go Go.RowKit
/-- A header's cells. -/
def hdL (h : THd) : List Value := nV h.ver :: (h.prev.map bV ++ (h.root.map bV ++ [nV h.time, nV h.work, nV h.nonce]))
theorem hdL_length {h : THd} (hh : HdOk h) : (hdL h).length = 68 := by simp [hdL, hh.2.1, hh.2.2.1]
theorem hdL_size {h : THd} (hh : HdOk h) : (hdL h).toArray.size = 68 := by rw [List.size_toArray]; exact hdL_length hh
theorem hdL_one' (h : THd) : ∀ v ∈ hdL h, v.oneCell' = true := by
  intro v hv
  rcases List.mem_cons.1 hv with rfl | h1
  · rfl
  rcases List.mem_append.1 h1 with h1 | h1
  · exact bV_one' _ v h1
  rcases List.mem_append.1 h1 with h1 | h1
  · exact bV_one' _ v h1
  · simp only [List.mem_cons, List.not_mem_nil, or_false] at h1
    rcases h1 with rfl | rfl | rfl <;> rfl
theorem hdL_one (h : THd) : (hdL h).toArray.all (·.oneCell') = true := all_oneCell_toArray (hdL_one' h)
/-- The parts' cells. -/
theorem hdL_at {h : THd} (hh : HdOk h) : (hdL h)[0]? = some (nV h.ver) ∧ (hdL h)[65]? = some (nV h.time) ∧ (hdL h)[66]? = some (nV h.work) ∧ (hdL h)[67]? = some (nV h.nonce) := by
  have h1 : (h.prev.map bV).length = 32 := by simp [hh.2.1]
  have h2 : (h.root.map bV).length = 32 := by simp [hh.2.2.1]
  have e : hdL h = [nV h.ver] ++ h.prev.map bV ++ h.root.map bV ++ [nV h.time, nV h.work, nV h.nonce] := by simp [hdL]
  refine ⟨rfl, ?_, ?_, ?_⟩ <;> (rw [e, List.getElem?_append_right (by simp only [List.length_append, h1, h2, List.length_cons, List.length_nil]; omega)]; simp only [List.length_append, h1, h2, List.length_cons, List.length_nil]; rfl)
theorem range_part {w : World} {b o : Nat} {xs ys zs : List Value} (h : w.rangeAt b o (xs ++ (ys ++ zs))) : w.rangeAt b (o + xs.length) ys := fun j v hj => by
  rw [Nat.add_assoc]
  refine h (xs.length + j) v ?_
  rw [List.getElem?_append_right (by omega), Nat.add_sub_cancel_left, List.getElem?_append_left (List.getElem?_eq_some_iff.1 hj).1]
  exact hj
theorem hd_prev {w : World} {b o : Nat} {h : THd} (hg : w.rangeAt b o (hdL h)) : w.rangeAt b (o + 1) (h.prev.map bV) :=
  range_part (xs := [nV h.ver]) (ys := h.prev.map bV) hg
theorem hd_root {w : World} {b o : Nat} {h : THd} (hh : HdOk h) (hg : w.rangeAt b o (hdL h)) : w.rangeAt b (o + 33) (h.root.map bV) := by
  have e : hdL h = (nV h.ver :: h.prev.map bV) ++ (h.root.map bV ++ [nV h.time, nV h.work, nV h.nonce]) := by simp [hdL]
  rw [e] at hg
  have h := range_part hg
  simpa [hh.2.1] using h
end Go.Proofs.YtibfamhhjnaeiaaDoor.Sha

/-
  Rows of transactions, and blocks, as the model has them: four cells each behind a slice; a header's cells and a slice. No conditions.
-/
namespace Go.Proofs.YtibfamhhjnaeiaaDoor.Sha
open Go Go.RowKit
/-- A transaction stands in block b from o on. -/
def TxIn (w : World) (b o : Nat) (t : TTx) : Prop := TxOk t ∧ ∃ iv ov, w.rangeAt b o (txL t iv ov) ∧ InsAt w iv t.ins ∧ OutsAt w ov t.outs
theorem TxIn.below {w w' : World} {b o : Nat} {t : TTx} (h : TxIn w b o t) (hb : Below w.heap.size w w') : TxIn w' b o t := by
  obtain ⟨h0, iv, ov, h1, h2, h3⟩ := h
  exact ⟨h0, iv, ov, range_below h1 hb, h2.below hb, h3.below hb⟩
/-- A row of transactions behind a slice. -/
def TxsAt (w : World) (v : Value) (l : List TTx) : Prop :=
  ∃ sp cap, v = .slice sp l.length cap ∧ l.length ≤ cap ∧ (0 < l.length → ∃ b o, sp = some ⟨b, o, none⟩ ∧ ∀ i t, l[i]? = some t → TxIn w b (o + i * 4) t)
theorem TxsAt.below {w w' : World} {v : Value} {l : List TTx} (h : TxsAt w v l) (hb : Below w.heap.size w w') : TxsAt w' v l := by
  obtain ⟨sp, cap, h1, h2, h3⟩ := h
  refine ⟨sp, cap, h1, h2, fun h0 => ?_⟩
  obtain ⟨b, o, h4, h5⟩ := h3 h0
  exact ⟨b, o, h4, fun i x hx => (h5 i x hx).below hb⟩
theorem TxsAt.nil (w : World) (sp : Option Addr) (cap : Nat) : TxsAt w (.slice sp 0 cap) [] := ⟨sp, cap, rfl, Nat.zero_le _, fun h => absurd h (by simp)⟩
theorem TxsAt.shape {w : World} {v : Value} {l : List TTx} (h : TxsAt w v l) : ∃ sp cap, v = .slice sp l.length cap := by
  obtain ⟨sp, cap, h1, _⟩ := h
  exact ⟨sp, cap, h1⟩
theorem TxsAt.len {w : World} {sp : Option Addr} {n cap : Nat} {l : List TTx} (h : TxsAt w (.slice sp n cap) l) : n = l.length ∧ n ≤ cap := by
  obtain ⟨sp', cap', h1, h2, _⟩ := h
  cases h1
  exact ⟨rfl, h2⟩
/-- One of them, by its place. -/
theorem TxsAt.get {w : World} {sp : Option Addr} {n cap : Nat} {l : List TTx} (h : TxsAt w (.slice sp n cap) l) (h0 : 0 < n) :
    ∃ b o, sp = some ⟨b, o, none⟩ ∧ b < w.heap.size ∧ ∀ i t, l[i]? = some t → ∃ iv ov, w.rangeAt b (o + i * 4) (txL t iv ov) ∧ TxAt w (.agg (txL t iv ov).toArray) t := by
  obtain ⟨sp', cap', h1, h2, h3⟩ := h
  cases h1
  obtain ⟨b, o, rfl, h5⟩ := h3 h0
  refine ⟨b, o, rfl, ?_, fun i t ht => ?_⟩
  · obtain ⟨_, iv, ov, h6, _⟩ := h5 0 (l[0]) (List.getElem?_eq_getElem h0)
    exact World.block_lt_of_cell? w _ (h6 0 _ rfl)
  · obtain ⟨a, iv, ov, h6, h7, h8⟩ := h5 i t ht
    exact ⟨iv, ov, h6, a, iv, ov, rfl, h7, h8⟩
/-- A block: a header, and transactions. -/
structure TBlk where
  head : THd
  txs : List TTx
/-- A block's cells. -/
def blL (h : THd) (tv : Value) : List Value := hdL h ++ [tv]
theorem blL_length {h : THd} (hh : HdOk h) (tv : Value) : (blL h tv).length = 69 := by simp [blL, hdL_length hh]
theorem blL_size {h : THd} (hh : HdOk h) (tv : Value) : (blL h tv).toArray.size = 69 := by simp [blL, hdL_length hh]
/-- A block by value. -/
def BlkAt (w : World) (v : Value) (x : TBlk) : Prop := HdOk x.head ∧ ∃ tv, v = .agg (blL x.head tv).toArray ∧ TxsAt w tv x.txs
theorem BlkAt.below {w w' : World} {v : Value} {x : TBlk} (h : BlkAt w v x) (hb : Below w.heap.size w w') : BlkAt w' v x := by
  obtain ⟨h0, tv, h1, h2⟩ := h
  exact ⟨h0, tv, h1, h2.below hb⟩
theorem blL_one {h : THd} {tv : Value} (ht : tv.oneCell' = true) : (blL h tv).toArray.all (·.oneCell') = true := by
  rw [Array.all_eq_true_iff_forall_mem]
  intro u hu
  rw [List.mem_toArray, blL, List.mem_append, List.mem_singleton] at hu
  rcases hu with hu | rfl
  · exact hdL_one' h u hu
  · exact ht
theorem TxsAt.one {w : World} {tv : Value} {l : List TTx} (h : TxsAt w tv l) : tv.oneCell' = true := by
  obtain ⟨sp, cap, rfl, _⟩ := h
  rfl
end Go.Proofs.YtibfamhhjnaeiaaDoor.Sha

/-
  Package undo puts transactions on a set, where nothing is amiss: what they took, the coins then. The set and new memory turn, no more. Conditions: the set and the transactions lie where they should; the errors, the table of the rounds' words are there.
-/
namespace Go.Proofs.YtibfamhhjnaeiaaDoor.Sha
open Go Go.RowKit
def apStep (ht : Int) (r : List TSp × List TSp) (t : TTx) : Except Nat (List TSp × List TSp) :=
  match putE ht r.2 t with
  | .error c => .error c
  | .ok q => .ok (r.1 ++ q.1, q.2)
/-- Transactions put on, one by one. -/
def applyE (ht : Int) (l : List TSp) (txs : List TTx) : Except Nat (List TSp × List TSp) := txs.foldlM (apStep ht) ([], l)
/-- How many inputs and outputs. -/
def totT (txs : List TTx) : Nat := (txs.map fun t => t.ins.length + t.outs.length).sum
theorem totT_snoc {txs : List TTx} {k : Nat} {t : TTx} (h : txs[k]? = some t) : totT (txs.take (k + 1)) = totT (txs.take k) + (t.ins.length + t.outs.length) := by
  have hk := (List.getElem?_eq_some_iff.1 h).1
  rw [List.take_succ_eq_append_getElem hk, (List.getElem?_eq_some_iff.1 h).2]
  simp [totT]
theorem totT_le (txs : List TTx) (k : Nat) : totT (txs.take k) ≤ totT txs := by
  have h : totT txs = totT (txs.take k) + totT (txs.drop k) := by
    show (txs.map fun t => t.ins.length + t.outs.length).sum = ((txs.take k).map fun t => t.ins.length + t.outs.length).sum + ((txs.drop k).map fun t => t.ins.length + t.outs.length).sum
    rw [← List.sum_append, ← List.map_append, List.take_append_drop]
  omega
/-- Transactions that stand while the blocks of F stand. -/
def TxsF (F : Nat → Prop) (w : World) (v : Value) (txs : List TTx) : Prop :=
  ∃ sp cap, v = .slice sp txs.length cap ∧ txs.length ≤ cap ∧ (0 < txs.length → ∃ b o, sp = some ⟨b, o, none⟩ ∧ ∀ i t, txs[i]? = some t → ∃ iv ov, ∀ W, Kps F w W → W.rangeAt b (o + i * 4) (txL t iv ov) ∧ TxAt W (.agg (txL t iv ov).toArray) t)
theorem TxsF.of {F : Nat → Prop} {w1 w : World} {v : Value} {txs : List TTx} (h : TxsAt w1 v txs) (hb : Below w1.heap.size w1 w) (hF : ∀ k, k < w1.heap.size → F k) : TxsF F w v txs := by
  have hd : ∀ W, Kps F w W → Below w1.heap.size w1 W := fun W hk => ⟨hk.os.trans hb.os, hk.tape.trans hb.tape, hk.output.trans hb.output, Nat.le_trans hb.size hk.size, fun k hlt => (hk.block k (Nat.lt_of_lt_of_le hlt hb.size) (hF k hlt)).trans (hb.block k hlt)⟩
  obtain ⟨sp, cap, rfl⟩ := h.shape
  refine ⟨sp, cap, rfl, h.len.2, fun h0 => ?_⟩
  obtain ⟨b, o, hs, _, hg⟩ := h.get h0
  refine ⟨b, o, hs, fun i t hi => ?_⟩
  obtain ⟨iv, ov, h1, h2⟩ := hg i t hi
  exact ⟨iv, ov, fun W hk => ⟨range_below h1 (hd W hk), h2.below (hd W hk)⟩⟩
theorem info_tx : (Tryd.prog.info? 58).map (fun i => (i.zero, i.size, i.bytes)) = some (some (.agg [nV 0, .slice none 0 0, .slice none 0 0, nV 0].toArray), 4, 64) := by kernel_rfl
def ApInv (a : Nat) (m : Option Nat) (gw : Nat) (w : World) (l : List TSp) (ht : Int) (txs : List TTx) (n : Nat) (v9 vi : Value) (wr : World) : Prop :=
  ∃ (k : Nat) (tk l' : List TSp) (m' : Option Nat) (vb : Value) (st : List (TSp × Bool)) (tv : Value), tv = v9 ∧ k ≤ n ∧ vi = .int .i64 (k : Int) ∧ (txs.take k).foldlM (apStep ht) ([], l) = .ok (tk, l') ∧ WyG w a m gw wr m' l' vb vb st ∧ Tr l st l' ∧ st.length ≤ totT (txs.take k)
    ∧ RwOwn 68 33 w.heap.size wr tv (tk.map spL) ∧ (∀ x ∈ tk, SpOk x) ∧ tk.length ≤ totT (txs.take k)
/-- What Apply answers, where nothing is amiss. -/
def ApPost (a : Nat) (m : Option Nat) (tk l' : List TSp) (w : World) (e : Ending) (w' : World) : Prop :=
  ∃ v m', e = .returned (.tuple #[v, .nilIface]) ∧ RwOwn 68 33 w.heap.size w' v (tk.map spL) ∧ SetAt w' a m' l' ∧ (m' = m ∨ ∃ q, m' = some q ∧ w.heap.size ≤ q) ∧ Kps (fun j => j ≠ a ∧ m ≠ some j) w w' ∧ ∀ x ∈ tk, SpOk x
set_option maxHeartbeats 4000000 in
set_option maxRecDepth 100000 in
theorem apply_ok (E : Nat → Addr) (w : World) (a : Nat) (m : Option Nat) (l : List TSp) (txs : List TTx) (tv : Value) (ht : Int) (tk0 l' : List TSp) (hE : ECw E w a m) (hs : SetAt w a m l) (hT : TxsF (fun j => j ≠ a ∧ m ≠ some j) w tv txs) (hK : ∀ W, Kps (fun j => j ≠ a ∧ m ≠ some j) w W → KTab W) (hsm : ∀ t ∈ txs, TxSmall t) (hn : totT txs ≤ 1000000) (hlen : txs.length ≤ 1000000000) (hh : -9223372036854775808 ≤ ht ∧ ht ≤ 9223372036854775807) (hok : applyE ht l txs = .ok (tk0, l')) :
    Calls Tryd.prog 11 #[.pointer (some ⟨a, 0, none⟩), .int .i64 ht, tv] w (ApPost a m tk0 l' w) := by
  obtain ⟨i0, hi, hz0, hz1, hz2⟩ := info_parts info_spent
  obtain ⟨spt, capt, rfl, hcap, hT⟩ := hT
  have HE := Lib.hid hE
  have HS := Lib.hid hs
  have HK := Lib.hid hK
  have HSM := Lib.hid hsm
  have HH := Lib.hid hh
  have HT := Lib.hid hT
  have OKE := Lib.hid hok
  obtain ⟨n, hn1⟩ : ∃ n, n = txs.length := ⟨_, rfl⟩
  rw [← hn1] at HT hcap hlen ⊢
  have NX := Lib.hid hn1
  have TOT := Lib.hid hn
  clear hE hs hK hsm hh hT hok hn1 hn
  go_enter Tryd.func11, Tryd.ntmps11
  have ZW : Hid ([Value.pointer (some ⟨a, 0, none⟩), .slice none 0 0].toArray.size = 2) := by show _ = _; rfl
  have WA : Hid ([Value.pointer (some ⟨a, 0, none⟩), .slice none 0 0].toArray.all (·.oneCell') = true) := all_oneCell_toArray (fun u hu => by
    simp only [List.mem_cons, List.not_mem_nil, or_false] at hu
    rcases hu with rfl | rfl <;> rfl)
  go_upto_region 2 with ((with_reducible show wpList _ _ _ _ _ _); first | (refine wpList_buildTo rfl 76 _ rfl _ rfl [Value.pointer (some ⟨a, 0, none⟩), .slice none 0 0].toArray (by kernel_rfl) ?_; go_frame) | (refine wpList_store_row rfl 76 (.tmp 8) (.tmp 15) rfl w.heap.size [Value.pointer (some ⟨a, 0, none⟩), .slice none 0 0].toArray rfl rfl 76 _ (heap_alloc_new _ _) (by rw [ZW.out]; kernel_rfl) (by rw [ZW.out]; rfl) WA.out ?_; go_frame))
  obtain ⟨_, f2, f3, f4⟩ := fill_setup (Below.refl w.heap.size w) [Value.pointer none, .slice none 0 0].toArray [Value.pointer (some ⟨a, 0, none⟩), .slice none 0 0].toArray 76
  generalize hqw1 : World.setRow _ _ _ = w1
  have ew1 : World.setRow (w.alloc (.cells [Value.pointer none, .slice none 0 0].toArray 76)) w.heap.size [Value.pointer (some ⟨a, 0, none⟩), .slice none 0 0].toArray = w1 := hqw1
  rw [ew1] at f2 f3 f4
  obtain ⟨gw, hgw⟩ : ∃ gw, gw = w.heap.size := ⟨_, rfl⟩
  rw [← hgw] at f2 ⊢
  have ST : Hid (WyG w a m gw w1 m l (.slice none 0 0) (.slice none 0 0) []) := ⟨f2, RwOwn.nil _ _ _ _, HS.out.below f4, by omega, .inl rfl, Kps.new f4⟩
  clear f2 f3 f4 hqw1 ew1 hgw
  go_wp2_with fail
  go_loopw [9, 18] (fun v9 vi wr => ApInv a m gw w l ht txs n v9 vi wr) (fun _ i _ => n - (intOf i).toNat)
  case atStart => exact ⟨0, [], l, _, _, _, _, rfl, Nat.zero_le _, rfl, rfl, ST.out, Tr.nil, Nat.zero_le _, RwOwn.nil _ _ _ _, fun x hx => (by simp at hx), Nat.zero_le _⟩
  case round =>
    clear ST
    obtain ⟨k, tk, l2, m2, vb, st, tv, rfl, hk, rfl, hfo, hst, htr, hsl, hrw, hok, hlen⟩ := hrel
    have ST := Lib.hid hst
    have TR := Lib.hid htr
    have RW := Lib.hid hrw
    have OK := Lib.hid hok
    have FO := Lib.hid hfo
    have SL := Lib.hid hsl
    have TL := Lib.hid hlen
    clear hst htr hrw hok hfo hsl hlen
    by_cases hlt : k < n
    · obtain ⟨t, htx⟩ : ∃ t, txs[k]? = some t := ⟨_, List.getElem?_eq_getElem (by rw [← NX.out]; exact hlt)⟩
      obtain ⟨bi, oi, rfl, hg⟩ := HT.out (by omega)
      obtain ⟨iv, ov, hw⟩ := hg k t htx
      have TW := Lib.hid hw
      have GT := Lib.hid htx
      have RX := Lib.hid (hw wr ST.out.kps).1
      have LX : Hid ((txL t iv ov).length = 4) := rfl
      have LXS : Hid ((txL t iv ov).toArray.size = 4) := rfl
      have XA : Hid ((txL t iv ov).toArray.all (·.oneCell') = true) := tx_one (txAt_parts (hw wr ST.out.kps).2).1 (txAt_parts (hw wr ST.out.kps).2).2
      have TS := Lib.hid (totT_snoc htx)
      have TB : Hid (totT (txs.take (k + 1)) ≤ 1000000) := Nat.le_trans (totT_le txs (k + 1)) TOT.out
      have OKP : Hid (∃ q, putE ht l2 t = .ok q) := by
        cases hq : putE ht l2 t with
        | ok q => exact ⟨q, rfl⟩
        | error c =>
          have h := OKE.out
          rw [applyE, foldlM_stop (apStep ht) htx FO.out (by rw [apStep, hq])] at h
          cases h
      obtain ⟨⟨tk3, l3⟩, hput⟩ := OKP.out
      have PU := Lib.hid hput
      have p0 : 0 ≤ (k : Int) := by omega
      have q0 : (k : Int) < (n : Int) := by omega
      obtain ⟨cx, hcx⟩ : ∃ cx, cx = txL t iv ov := ⟨_, rfl⟩
      rw [← hcx] at RX LX LXS XA
      have CXE := Lib.hid hcx
      clear htx hg hw hput hcx
      go_upto_region 6 with ((with_reducible show wpList _ _ _ _ _ _); first | (refine wpList_load_mid rfl 58 (.tmp 21) rfl bi (oi + k * 4) rfl cx _ RX.out Tryd.underlying58 rfl (by rw [LX.out]; kernel_rfl) ?_; go_frame) | (refine wpList_store_row rfl 58 (.tmp 11) (.tmp 22) rfl wr.heap.size cx.toArray rfl rfl 58 _ (heap_alloc_new _ _) (by rw [LXS.out]; kernel_rfl) (by rw [LXS.out]; rfl) XA.out ?_; go_frame))
      obtain ⟨_, f2, f3, f4⟩ := fill_setup (Below.refl wr.heap.size wr) [nV 0, .slice none 0 0, .slice none 0 0, nV 0].toArray cx.toArray 58
      generalize hqw4 : World.setRow _ _ _ = w4
      have ew4 : World.setRow (wr.alloc (.cells [nV 0, .slice none 0 0, .slice none 0 0, nV 0].toArray 58)) wr.heap.size cx.toArray = w4 := hqw4
      rw [ew4] at f2 f3 f4
      obtain ⟨g11, hg11⟩ : ∃ g11, g11 = wr.heap.size := ⟨_, rfl⟩
      rw [← hg11] at f2 ⊢
      have F11 := Lib.hid f2
      have Ng11 : Hid (wr.heap.size ≤ g11) := by show _ ≤ _; rw [hg11]; exact Nat.le_refl _
      have ST := Lib.hid (ST.out.below f4)
      have RW := Lib.hid (RW.out.keep f4)
      clear f2 f3 f4 hqw4 ew4 hg11
      clear Ng11 p0 q0
      have PA := wyput_any E w w4 a gw m m2 l l2 vb st t iv ov ht HE.out ST.out (fun W hW => (TW.out W hW).2) HK.out (HSM.out t (List.mem_of_getElem? GT.out)) (by have := TS.out; have := TB.out; have := SL.out; omega) HH.out TR.out
      rw [← CXE.out, PU.out] at PA
      have PA := Lib.hid PA
      go_wp2_with ((with_reducible show wpList _ _ _ _ _ _); (refine wpList_load_row rfl 58 (.tmp 11) rfl g11 rfl 58 cx.toArray (0, 0) _ F11.out Tryd.underlying58 rfl (by rw [LXS.out]; kernel_rfl) ?_; go_frame))
      refine PA.out.mono ?_
      rintro e w5 ⟨m5, l5, v5, st5, hst, htr, hsl, hsd, hor⟩
      obtain ⟨tk6, tv6, e6, rfl, hrw, hok, hln⟩ : ∃ tk tv, Except.ok (tk3, l3) = .ok (tk, l5) ∧ e = .returned (.tuple #[tv, .nilIface]) ∧ RwOwn 68 33 w4.heap.size w5 tv (tk.map spL) ∧ (∀ x ∈ tk, SpOk x) ∧ tk.length ≤ t.ins.length := by
        rcases hor with ⟨c, h, _⟩ | h
        · cases h
        · exact h
      obtain ⟨rfl, rfl⟩ : tk3 = tk6 ∧ l3 = l5 := by cases e6; exact ⟨rfl, rfl⟩
      have W4 := Lib.hid ST.out.kps.size
      have ST := Lib.hid hst
      have TR := Lib.hid htr
      have SL2 : Hid (st5.length ≤ totT (txs.take (k + 1))) := by show _ ≤ _; have := TS.out; have := SL.out; omega
      have RW := Lib.hid (hsd.row RW.out (by decide) (by decide) (by decide))
      have RA := Lib.hid (hrw.at (by decide))
      have OK3 := Lib.hid hok
      have LN := Lib.hid hln
      clear hst htr hsl hsd hor hrw hok hln e6 PA
      have B1 : Hid (((tk.map spL).length + (tk3.map spL).length) ≤ 1000000) := by show _ ≤ _; rw [List.length_map, List.length_map]; have := TL.out; have := LN.out; have := TS.out; have := TB.out; omega
      have SO : Hid (∀ m ∈ tk3.map spL, ∀ u ∈ m, u.oneCell' = true) := fun m hm u hu => by
        obtain ⟨x, _, rfl⟩ := List.mem_map.1 hm
        exact spL_one x u hu
      obtain ⟨sp6, cap6, hsh⟩ := RA.out.shape
      subst hsh
      obtain ⟨n6, hn6⟩ : ∃ n6, n6 = (tk3.map spL).length := ⟨_, rfl⟩
      rw [← hn6] at RA ⊢
      clear hn6
      go_wp2_with (at_builtin; go_loud (refine wpList_append_rw _ rfl _ _ 22 rfl w.heap.size 33 i0 (.agg (spL ⟨⟨List.replicate 32 0, 0⟩, mnZ⟩).toArray) 68 96 Tryd.underlying22 hi hz0 hz1 hz2 (by kernel_rfl) (by decide) tv (tk.map spL) rfl RW.out _ (tk3.map spL) rfl RA.out SO.out (by have := B1.out; omega) (by have := B1.out; unfold maxLen; omega) ST.out.kps.size ?_; intro v8 w8 q1 q2; have RW8 := Lib.hid q1; have ST8 := Lib.hid (ST.out.grownRow RW.out.1 (Nat.le_refl _) q2); clear q1 q2; go_frame))
      go_roundw
      case rel =>
        refine ⟨k + 1, tk ++ tk3, l3, _, _, _, _, rfl, by omega, by go_num, foldlM_on _ GT.out FO.out (by rw [apStep, PU.out]), ST8.out, TR.out, SL2.out, by rw [List.map_append]; exact RW8.out, ?_, by rw [List.length_append]; have := TL.out; have := LN.out; have := TS.out; omega⟩
        intro y hy
        rcases List.mem_append.1 hy with hy | hy
        · exact OK.out y hy
        · exact OK3.out y hy
      case measure => simp [intOf]; omega
    · obtain rfl : k = n := by omega
      have EQ : Hid (tk = tk0 ∧ l2 = l') := by
        have h := FO.out
        rw [NX.out, List.take_length] at h
        have h2 := OKE.out
        rw [applyE, h] at h2
        cases h2
        exact ⟨rfl, rfl⟩
      obtain ⟨rfl, rfl⟩ := EQ.out
      clear hlt EQ
      go_wp2_with fail
      go_ret2
      exact ⟨_, _, rfl, RW.out, ST.out.set, ST.out.hm, ST.out.kps, OK.out⟩
end Go.Proofs.YtibfamhhjnaeiaaDoor.Sha

/-
  What literals of transactions, inputs, outputs and places lay. No conditions beyond those that each states.
-/
namespace Go.Proofs.YtibfamhhjnaeiaaDoor.Sha
open Go Go.RowKit
def zH : List UInt8 := List.replicate 32 0
theorem zH_length : zH.length = 32 := rfl
theorem built_ptn (n : Nat) : Tryd.prog.built 28 [(1, .int .u32 (n : Int))] = some (ptL zH n).toArray := by kernel_rfl
theorem built_inp (x : TIn) (hx : x.h.length = 32) (hs : x.seq = 0) : Tryd.prog.built 52 [(0, .agg (ptL x.h x.n).toArray)] = some (inL x (.slice none 0 0)).toArray := by
  have hz : ∀ parts, Tryd.prog.built 52 parts = Instr.fill ([(0, 33), (33, 1), (34, 1)].toArray[·]?) (List.replicate 32 (bV 0) ++ [nV 0, .slice none 0 0, nV 0]).toArray parts := fun parts => by kernel_rfl
  have hl : (ptL x.h x.n).length = 33 := by simp [ptL, hx]
  rw [hz, fill_part _ 0 0 (.agg (ptL x.h x.n).toArray) (ptL x.h x.n) _ _ rfl (by rw [hl]; rfl) (by rw [hl]; simp)]
  rw [List.take_zero, List.nil_append, Nat.zero_add, hl, inL, hs]
  rfl
theorem built_ink (x : TIn) (hx : x.h.length = 32) (kv : Value) (hk : kv.oneCell' = true) (hs : x.seq = 0) : Tryd.prog.built 52 [(0, .agg (ptL x.h x.n).toArray), (1, kv)] = some (inL x kv).toArray := by
  have hz : ∀ parts, Tryd.prog.built 52 parts = Instr.fill ([(0, 33), (33, 1), (34, 1)].toArray[·]?) (List.replicate 32 (bV 0) ++ [nV 0, .slice none 0 0, nV 0]).toArray parts := fun parts => by kernel_rfl
  have hl : (ptL x.h x.n).length = 33 := by simp [ptL, hx]
  rw [hz, fill_part _ 0 0 (.agg (ptL x.h x.n).toArray) (ptL x.h x.n) _ _ rfl (by rw [hl]; rfl) (by rw [hl]; simp)]
  rw [List.take_zero, List.nil_append, Nat.zero_add, hl]
  rw [fill_part _ 1 33 kv [kv] _ _ (cells_one hk) rfl (by simp [hl])]
  have e : List.drop (33 + [kv].length) (ptL x.h x.n ++ List.drop 33 (List.replicate 32 (bV 0) ++ [nV 0, .slice none 0 0, nV 0])) = [nV 0] := by
    rw [show 33 + [kv].length = (ptL x.h x.n).length + 1 by rw [hl]; rfl, ← List.drop_drop, List.drop_left]
    rfl
  rw [List.take_append_of_le_length (by omega), List.take_of_length_le (by omega), e, inL, hs]
  rw [List.append_assoc]
  rfl
theorem built_txs (iv ov : Value) (h1 : iv.oneCell' = true) (h2 : ov.oneCell' = true) : Tryd.prog.built 58 [(1, iv), (2, ov)] = some [nV 0, iv, ov, nV 0].toArray := by
  have hz : ∀ parts, Tryd.prog.built 58 parts = Instr.fill ([(0, 1), (1, 1), (2, 1), (3, 1)].toArray[·]?) [nV 0, .slice none 0 0, .slice none 0 0, nV 0].toArray parts := fun parts => by kernel_rfl
  rw [hz, fill_part _ 1 1 iv [iv] _ _ (cells_one h1) rfl (by simp), fill_part _ 2 2 ov [ov] _ _ (cells_one h2) rfl (by simp)]
  rfl
theorem built_outv (v : Nat) : Tryd.prog.built 55 [(0, .int .u64 (v : Int))] = some (outL ⟨v, zH⟩).toArray := by kernel_rfl
theorem built_out0 : Tryd.prog.built 55 [] = some (outL ⟨0, zH⟩).toArray := by kernel_rfl
end Go.Proofs.YtibfamhhjnaeiaaDoor.Sha
