/-
  Texts of this proof joined into one file: HdSame, Bits, TxTurnedWalk, HdBackWalk, ShaArgs, ShaSha, RefTwice, HdId, HdMix. What each holds, and under which conditions, its own first sentence tells.
-/
import Derived.Laws.BitsAllLaws
import Derived.ProofKit
import Derived.OpenShut
import Derived.ShutString
import Derived.ChangeOld
import Derived.Deep.DeepHandedRow
import Derived.Lib.LaidTab
import Derived.Deep.DeepCutAuto
import Derived.Test.YtlfpjfhpleociaaDoorMg04
import Derived.Test.YtlfpjfhpleociaaDoorMg02
import Derived.Test.YtlfpjfhpleociaaDoorMg01
import Derived.Test.YtlfpjfhpleociaaDoorMg05
import Derived.Test.YtlfpjfhpleociaaDoorMg03
import Derived.Test.YtlfpjfhpleociaaDoorCards
import Derived.Test.YtlfpjfhpleociaaDoorTie
/-
  The statements' own SameHead tells whether two headers are one. Nothing that was there turns. Condition: digests of 32 bytes, numbers of 32 bits.
-/
namespace Go.Proofs.YtlfpjfhpleociaaDoor.Sha
open Go Go.RowKit
/-- Two boxes, a header in each. -/
theorem hd_boxes (w : World) (h h' : THd) :
    Below w.heap.size w ((w.alloc (.cells (hdL h).toArray 26)).alloc (.cells (hdL h').toArray 26))
    ∧ HdBox ((w.alloc (.cells (hdL h).toArray 26)).alloc (.cells (hdL h').toArray 26)) w.heap.size h
    ∧ HdBox ((w.alloc (.cells (hdL h).toArray 26)).alloc (.cells (hdL h').toArray 26)) (w.heap.size + 1) h' := by
  refine ⟨(hd_box w h).1.trans ((hd_box (w.alloc (.cells (hdL h).toArray 26)) h').1.mono (hd_box w h).1.size), (hd_box w h).2.below (hd_box _ h').1, ?_⟩
  have q := (hd_box (w.alloc (.cells (hdL h).toArray 26)) h').2
  rwa [World.size_alloc] at q
theorem hd_ext {h g : THd} (h1 : h.ver = g.ver) (h2 : h.prev = g.prev) (h3 : h.root = g.root) (h4 : h.time = g.time) (h5 : h.work = g.work) (h6 : h.nonce = g.nonce) : h = g := by
  cases h; cases g; simp_all
set_option maxHeartbeats 1000000 in
set_option maxRecDepth 100000 in
theorem samehd_any (h g : THd) (hh : HdOk h) (hg : HdOk g) (b : Bool) (hb : b = true ↔ h = g) (w : World) :
    Calls Tryd.prog 11 #[.agg (hdL h).toArray, .agg (hdL g).toArray] w fun e w' => e = .returned (.bool b) ∧ Below w.heap.size w w' := by
  have HH := Lib.hid hh
  have HG := Lib.hid hg
  have NO : Hid (h ≠ g → b = false) := fun n => by cases b with
    | true => exact absurd (hb.1 rfl) n
    | false => rfl
  have YES : Hid (h = g → b = true) := hb.2
  have L1 : Hid ((h.prev.map bV).length = 32) := by show _ = _; rw [List.length_map]; exact hh.2.1
  have L1' : Hid ((g.prev.map bV).length = 32) := by show _ = _; rw [List.length_map]; exact hg.2.1
  have L2 : Hid ((h.root.map bV).length = 32) := by show _ = _; rw [List.length_map]; exact hh.2.2.1
  have L2' : Hid ((g.root.map bV).length = 32) := by show _ = _; rw [List.length_map]; exact hg.2.2.1
  obtain ⟨cs, hcs⟩ : ∃ cs, cs = hdL h := ⟨_, rfl⟩
  obtain ⟨cs', hcs'⟩ : ∃ cs, cs = hdL g := ⟨_, rfl⟩
  rw [← hcs, ← hcs']
  have CS := Lib.hid hcs
  have CS' := Lib.hid hcs'
  clear hcs hcs' hb hh hg
  go_enter Tryd.func11, Tryd.ntmps11
  go_upto_region 1 with fail
  rw [CS.out, CS'.out]
  obtain ⟨B, F, F'⟩ := hd_boxes w h g
  generalize hw1 : World.alloc (World.alloc w _) _ = w1
  rw [hw1] at B F F'
  have B := Lib.hid B
  have F := Lib.hid F
  have F' := Lib.hid F'
  clear hw1 CS CS'
  obtain ⟨ver, hver⟩ : ∃ n, n = h.ver := ⟨_, rfl⟩
  obtain ⟨ver', hver'⟩ : ∃ n, n = g.ver := ⟨_, rfl⟩
  have Ever := Lib.hid hver
  have Ever' := Lib.hid hver'
  clear hver hver'
  obtain ⟨time, htime⟩ : ∃ n, n = h.time := ⟨_, rfl⟩
  obtain ⟨time', htime'⟩ : ∃ n, n = g.time := ⟨_, rfl⟩
  have Etime := Lib.hid htime
  have Etime' := Lib.hid htime'
  clear htime htime'
  obtain ⟨work, hwork⟩ : ∃ n, n = h.work := ⟨_, rfl⟩
  obtain ⟨work', hwork'⟩ : ∃ n, n = g.work := ⟨_, rfl⟩
  have Ework := Lib.hid hwork
  have Ework' := Lib.hid hwork'
  clear hwork hwork'
  obtain ⟨nonce, hnonce⟩ : ∃ n, n = h.nonce := ⟨_, rfl⟩
  obtain ⟨nonce', hnonce'⟩ : ∃ n, n = g.nonce := ⟨_, rfl⟩
  have Enonce := Lib.hid hnonce
  have Enonce' := Lib.hid hnonce'
  clear hnonce hnonce'
  have CC : Hid (∀ w', Below w1.heap.size w1 w' → w'.cell? ⟨w.heap.size, 0, none⟩ = some (.int .u32 (ver : Int)) ∧ w'.cell? ⟨w.heap.size, 65, none⟩ = some (.int .u32 (time : Int)) ∧ w'.cell? ⟨w.heap.size, 66, none⟩ = some (.int .u32 (work : Int)) ∧ w'.cell? ⟨w.heap.size, 67, none⟩ = some (.int .u32 (nonce : Int))) := fun w' hw' => by
    rw [Ever.out, Etime.out, Ework.out, Enonce.out]
    exact (F.out.below hw').cells HH.out
  have CC' : Hid (∀ w', Below w1.heap.size w1 w' → w'.cell? ⟨w.heap.size + 1, 0, none⟩ = some (.int .u32 (ver' : Int)) ∧ w'.cell? ⟨w.heap.size + 1, 65, none⟩ = some (.int .u32 (time' : Int)) ∧ w'.cell? ⟨w.heap.size + 1, 66, none⟩ = some (.int .u32 (work' : Int)) ∧ w'.cell? ⟨w.heap.size + 1, 67, none⟩ = some (.int .u32 (nonce' : Int))) := fun w' hw' => by
    rw [Ever'.out, Etime'.out, Ework'.out, Enonce'.out]
    exact (F'.out.below hw').cells HG.out
  obtain ⟨c0, c65, c66, c67⟩ := CC.out w1 (Below.refl _ _)
  obtain ⟨d0, d65, d66, d67⟩ := CC'.out w1 (Below.refl _ _)
  have R1 : Hid (∀ w', Below w1.heap.size w1 w' → w'.rangeAt w.heap.size 1 (h.prev.map bV)) := fun w' hw' => (F.out.below hw').prev
  have R2 : Hid (∀ w', Below w1.heap.size w1 w' → w'.rangeAt w.heap.size 33 (h.root.map bV)) := fun w' hw' => (F.out.below hw').root HH.out
  have R1' : Hid (∀ w', Below w1.heap.size w1 w' → w'.rangeAt (w.heap.size + 1) 1 (g.prev.map bV)) := fun w' hw' => (F'.out.below hw').prev
  have R2' : Hid (∀ w', Below w1.heap.size w1 w' → w'.rangeAt (w.heap.size + 1) 33 (g.root.map bV)) := fun w' hw' => (F'.out.below hw').root HG.out
  by_cases ever : ver = ver'
  rotate_left
  · have ht : ((ver : Int) == (ver' : Int)) = false := by rw [beq_eq_false_iff_ne]; omega
    obtain rfl : b = false := NO.out (fun e => ever (by rw [Ever.out, Ever'.out, e]))
    clear ever
    go_wp2_with fail
    go_ret
    exact ⟨rfl, B.out⟩
  have tver : ((ver : Int) == (ver' : Int)) = true := by rw [beq_iff_eq]; omega
  have Qver := Lib.hid ever
  clear ever
  go_wp2_with ((with_reducible show wpList _ _ _ _ _ _); first | (refine wpList_load_midG 24 (.tmp 11) rfl w.heap.size 1 rfl (h.prev.map bV) _ (R1.out _ (Below.refl _ _)) Tryd.underlying24 rfl (by rw [L1.out]; kernel_rfl) rfl ?_; go_frame) | (refine wpList_load_midG 24 (.tmp 13) rfl (w.heap.size + 1) 1 rfl (g.prev.map bV) _ (R1'.out _ (Below.refl _ _)) Tryd.underlying24 rfl (by rw [L1'.out]; kernel_rfl) rfl ?_; go_frame))
  refine (same_b h.prev g.prev (by have := L1.out; simpa using this) (by have := L1'.out; simpa using this) _ rfl _).mono ?_
  rintro e w2 ⟨rfl, hb2⟩
  have B1 : Hid (Below w1.heap.size w1 w2) := hb2
  obtain ⟨c0, c65, c66, c67⟩ := CC.out w2 B1.out
  obtain ⟨d0, d65, d66, d67⟩ := CC'.out w2 B1.out
  clear hb2
  by_cases eprev : h.prev = g.prev
  rotate_left
  · rw [decide_eq_false eprev]
    obtain rfl : b = false := NO.out (fun e => eprev (by rw [e]))
    clear eprev
    go_wp2_with fail
    go_ret
    exact ⟨rfl, B.out.trans (B1.out.mono B.out.size)⟩
  rw [decide_eq_true eprev]
  have Qprev := Lib.hid eprev
  clear eprev
  go_wp2_with ((with_reducible show wpList _ _ _ _ _ _); first | (refine wpList_load_midG 24 (.tmp 18) rfl w.heap.size 33 rfl (h.root.map bV) _ (R2.out _ B1.out) Tryd.underlying24 rfl (by rw [L2.out]; kernel_rfl) rfl ?_; go_frame) | (refine wpList_load_midG 24 (.tmp 20) rfl (w.heap.size + 1) 33 rfl (g.root.map bV) _ (R2'.out _ B1.out) Tryd.underlying24 rfl (by rw [L2'.out]; kernel_rfl) rfl ?_; go_frame))
  refine (same_b h.root g.root (by have := L2.out; simpa using this) (by have := L2'.out; simpa using this) _ rfl _).mono ?_
  rintro e w3 ⟨rfl, hb2⟩
  have B2 : Hid (Below w1.heap.size w1 w3) := B1.out.trans (hb2.mono B1.out.size)
  obtain ⟨c0, c65, c66, c67⟩ := CC.out w3 B2.out
  obtain ⟨d0, d65, d66, d67⟩ := CC'.out w3 B2.out
  clear hb2
  by_cases eroot : h.root = g.root
  rotate_left
  · rw [decide_eq_false eroot]
    obtain rfl : b = false := NO.out (fun e => eroot (by rw [e]))
    clear eroot
    go_wp2_with fail
    go_ret
    exact ⟨rfl, B.out.trans (B2.out.mono B.out.size)⟩
  rw [decide_eq_true eroot]
  have Qroot := Lib.hid eroot
  clear eroot
  by_cases etime : time = time'
  rotate_left
  · have ht : ((time : Int) == (time' : Int)) = false := by rw [beq_eq_false_iff_ne]; omega
    obtain rfl : b = false := NO.out (fun e => etime (by rw [Etime.out, Etime'.out, e]))
    clear etime
    go_wp2_with fail
    go_ret
    exact ⟨rfl, B.out.trans (B2.out.mono B.out.size)⟩
  have ttime : ((time : Int) == (time' : Int)) = true := by rw [beq_iff_eq]; omega
  have Qtime := Lib.hid etime
  clear etime
  by_cases ework : work = work'
  rotate_left
  · have ht : ((work : Int) == (work' : Int)) = false := by rw [beq_eq_false_iff_ne]; omega
    obtain rfl : b = false := NO.out (fun e => ework (by rw [Ework.out, Ework'.out, e]))
    clear ework
    go_wp2_with fail
    go_ret
    exact ⟨rfl, B.out.trans (B2.out.mono B.out.size)⟩
  have twork : ((work : Int) == (work' : Int)) = true := by rw [beq_iff_eq]; omega
  have Qwork := Lib.hid ework
  clear ework
  by_cases enonce : nonce = nonce'
  rotate_left
  · have ht : ((nonce : Int) == (nonce' : Int)) = false := by rw [beq_eq_false_iff_ne]; omega
    obtain rfl : b = false := NO.out (fun e => enonce (by rw [Enonce.out, Enonce'.out, e]))
    clear enonce
    go_wp2_with fail
    go_ret
    exact ⟨rfl, B.out.trans (B2.out.mono B.out.size)⟩
  have tnonce : ((nonce : Int) == (nonce' : Int)) = true := by rw [beq_iff_eq]; omega
  have Qnonce := Lib.hid enonce
  clear enonce
  obtain rfl : b = true := YES.out (hd_ext (by rw [← Ever.out, ← Ever'.out]; exact Qver.out) Qprev.out Qroot.out (by rw [← Etime.out, ← Etime'.out]; exact Qtime.out) (by rw [← Ework.out, ← Ework'.out]; exact Qwork.out) (by rw [← Enonce.out, ← Enonce'.out]; exact Qnonce.out))
  go_wp2_with fail
  go_ret
  exact ⟨rfl, B.out.trans (B2.out.mono B.out.size)⟩
end Go.Proofs.YtlfpjfhpleociaaDoor.Sha

/-
  A byte with bits turned. No conditions.
-/
namespace Go.Proofs.YtlfpjfhpleociaaDoor.Sha
open Go Go.RowKit
theorem bv_xor (x y : UInt8) : bits .xor .u8 (bv x) (bv y) = bv (x ^^^ y) := by
  unfold bv
  rw [u8_xor_nat _ _ x.toNat_lt y.toNat_lt, UInt8.toNat_xor]
theorem bv_pow (t : Nat) : (2 : Int) ^ t % 256 = bv (UInt8.ofNat (2 ^ t)) := by
  unfold bv
  rw [UInt8.toNat_ofNat']
  simp
end Go.Proofs.YtlfpjfhpleociaaDoor.Sha

/-
  The statement on a transaction's bytes with one bit turned answers true, given what package tx is shown to answer. Conditions: the transaction lies in memory, the errors are there.
-/
namespace Go.Proofs.YtlfpjfhpleociaaDoor.Sha
open Go Go.RowKit
theorem flip_other (x : UInt8) (t : Nat) (h : t < 8) : x ^^^ UInt8.ofNat (2 ^ t) ≠ x := fun e => by
  have h1 : UInt8.ofNat (2 ^ t) = 0 := by
    have h2 := congrArg (x ^^^ ·) e
    simp only [← UInt8.xor_assoc, UInt8.xor_self, UInt8.zero_xor] at h2
    exact h2
  have h3 : ∀ k : Fin 8, UInt8.ofNat (2 ^ k.1) ≠ 0 := by decide
  exact h3 ⟨t, h⟩ h1
theorem flip_tx {l m : List UInt8} {q : Nat} {y x : UInt8} (hq : q < l.length) (hx : x = l.getD q 0) (hy : y ≠ x) (h : l.set q y = m) : l ≠ m := fun e => by
  rw [← e] at h
  have h2 := congrArg (fun z : List UInt8 => z.getD q 0) h
  simp only [List.getD, List.getElem?_set_self hq, Option.getD_some] at h2
  exact hy (by rw [hx]; exact h2)
end Go.Proofs.YtlfpjfhpleociaaDoor.Sha

/-
  The statement on a header's bytes, read again, cut off, longer, with one bit turned, answers true. Conditions: a header of digests of 32 bytes, the errors are there.
-/
namespace Go.Proofs.YtlfpjfhpleociaaDoor.Sha
open Go Go.RowKit
set_option maxHeartbeats 2000000 in
set_option maxRecDepth 100000 in
theorem headback_main (E : Nat → Addr) (h : THd) (hh : HdOk h) (cut bit : Int) (hcut : -9223372036854775808 ≤ cut ∧ cut ≤ 9223372036854775807) (hbit : -9223372036854775808 ≤ bit ∧ bit ≤ 9223372036854775807) (w : World) (hE : Errs w E) :
    Calls Tryd.prog 3 #[.agg (hdL h).toArray, .int .i64 cut, .int .i64 bit] w fun e w' => e = .returned (.bool true) ∧ Below w.heap.size w w' := by
  obtain ⟨i0, hi, hz0, hz1, hz2⟩ := info_parts info_u8
  have HH := Lib.hid hh
  have HE := Lib.hid hE
  obtain ⟨j, hj, hj2⟩ := numb_nat cut 80 (by omega)
  obtain ⟨r, hr, hr2⟩ := numb_nat bit 640 (by omega)
  have NUM1 : Hid (∀ W, Calls Tryd.prog 9 #[.int .i64 cut, .int .i64 80] W fun e w' => e = .returned (.int .i64 (j : Int)) ∧ W = w') := fun W => by
    have h := numb_any cut 80 (by omega) (by omega) hcut W
    rwa [show ((80 : Int)) = ((80 : Nat) : Int) by rfl, hj] at h
  have NUM2 : Hid (∀ W, Calls Tryd.prog 9 #[.int .i64 bit, .int .i64 640] W fun e w' => e = .returned (.int .i64 (r : Int)) ∧ W = w') := fun W => by
    have h := numb_any bit 640 (by omega) (by omega) hbit W
    rwa [show ((640 : Int)) = ((640 : Nat) : Int) by rfl, hr] at h
  have R1 : Hid (HRead (hdB h) h 0) := ⟨hd_own hh⟩
  have R2 : Hid (HRead ((hdB h).take j) hdZ 1) := ⟨hd_cut hh hj2⟩
  have R3 : Hid (HRead (hdB h ++ [1]) hdZ 2) := ⟨hd_long hh (by simp)⟩
  have L80 : Hid ((hdB h).length = 80) := hdB_length hh
  obtain ⟨q, hq⟩ : ∃ q, q = r / 8 := ⟨_, rfl⟩
  obtain ⟨k, hk⟩ : ∃ k, k = r % 8 := ⟨_, rfl⟩
  have hqn : q < 80 := by omega
  have hk8 : k < 8 := by omega
  have hq1 : (r : Int).tdiv 8 = (q : Int) := by rw [Int.tdiv_eq_ediv_of_nonneg (by omega)]; omega
  have ht1 : (r : Int).tmod 8 = (k : Int) := by rw [Int.tmod_eq_emod_of_nonneg (by omega)]; omega
  obtain ⟨x, hx⟩ : ∃ x, x = (hdB h).getD q 0 := ⟨_, rfl⟩
  obtain ⟨y, hy⟩ : ∃ y, y = x ^^^ UInt8.ofNat (2 ^ k) := ⟨_, rfl⟩
  have hx1 : bits .xor .u8 (bv x) ((2 : Int) ^ k % 256) = bv y := by rw [bv_pow, bv_xor, hy]
  have HSET : Hid (∀ l : List UInt8, (l.map bV).set q (.int .u8 (bv y)) = (l.set q y).map bV) := fun l => (List.map_set (f := bV) (l := l) (i := q) (a := y)).symm
  have HNE : Hid (∀ m, (hdB h).set q y = m → hdB h ≠ m) := fun m h' => flip_tx (by rw [L80.out]; exact hqn) hx (by rw [hy]; exact flip_other x k hk8) h'
  obtain ⟨bs, hbs⟩ : ∃ bs, bs = (hdB h).set q y := ⟨_, rfl⟩
  have HLN : Hid (bs.length = 80) := by show _ = _; rw [hbs, List.length_set]; exact L80.out
  obtain ⟨u, hu, hub⟩ := hd_all bs HLN.out
  have RU : Hid (HRead bs u 0) := ⟨by rw [← hub]; exact hd_own hu⟩
  have HU := Lib.hid hu
  have UNE : Hid ((false = true) ↔ u = h) := ⟨fun e => (Bool.false_ne_true e).elim, fun e => absurd (by rw [← e, hub]) (HNE.out bs hbs.symm)⟩
  have HX := Lib.hid hx
  have HBS := Lib.hid hbs
  have HQ1 := Lib.hid hq1
  have HT1 := Lib.hid ht1
  have HX1 := Lib.hid hx1
  clear hj hr hq hk hx hy hbs hub hu hh hE HNE hcut hbit hr2 hq1 ht1 hx1
  obtain ⟨l0, hl0⟩ : ∃ l, l = hdL h := ⟨_, rfl⟩
  have LN0 : Hid (l0.length = 68) := by show _ = _; rw [hl0]; exact hdL_length HH.out
  have ON0 : Hid (∀ v ∈ l0, v.oneCell' = true) := by show ∀ v ∈ l0, _; rw [hl0]; exact hdL_one' h
  obtain ⟨lz, hlz⟩ : ∃ l, l = hdL hdZ := ⟨_, rfl⟩
  have LNZ : Hid (lz.length = 68) := by show _ = _; rw [hlz]; exact hdL_length hdZ_ok
  have ONZ : Hid (∀ v ∈ lz, v.oneCell' = true) := by show ∀ v ∈ lz, _; rw [hlz]; exact hdL_one' hdZ
  obtain ⟨lu, hlu⟩ : ∃ l, l = hdL u := ⟨_, rfl⟩
  have LNU : Hid (lu.length = 68) := by show _ = _; rw [hlu]; exact hdL_length HU.out
  have ONU : Hid (∀ v ∈ lu, v.oneCell' = true) := by show ∀ v ∈ lu, _; rw [hlu]; exact hdL_one' u
  have BY : Hid (∀ W, Calls Tryd.prog 7 #[.agg l0.toArray] W fun e w' => ∃ v, e = .returned v ∧ CopyB W w' v (hdB h)) := fun W => by rw [hl0]; exact hdbytes_any h HH.out W
  have RD : Hid (∀ (bs : List UInt8) (t : THd) (c : Nat) (l : List Value) (v : Value) (W : World), l = hdL t → HRead bs t c → Below w.heap.size w W → SrcB W v bs → bs.length ≤ 1000 → Calls Tryd.prog 8 #[v] W fun e w' => e = .returned (.tuple #[.agg l.toArray, errV E c]) ∧ Below W.heap.size W w') := fun bs t c l v W hl hr hb hs hn => by
    rw [hl]
    exact read_hd E bs v W t c hr (HE.out.er.below hb) hs (by omega)
  have SM1 : Hid (∀ W, Calls Tryd.prog 11 #[.agg l0.toArray, .agg l0.toArray] W fun e w' => e = .returned (.bool true) ∧ Below W.heap.size W w') := fun W => by rw [hl0]; exact samehd_any h h HH.out HH.out true (by simp) W
  have SM2 : Hid (∀ W, Calls Tryd.prog 11 #[.agg lu.toArray, .agg l0.toArray] W fun e w' => e = .returned (.bool false) ∧ Below W.heap.size W w') := fun W => by rw [hl0, hlu]; exact samehd_any u h HU.out HH.out false UNE.out W
  have HL0 := Lib.hid hl0
  have HLZ := Lib.hid hlz
  have HLU := Lib.hid hlu
  rw [← hl0]
  clear hl0 hlz hlu
  go_enter Tryd.func3, Tryd.ntmps3
  go_upto_region 1 with fail
  obtain ⟨b1, f1⟩ := box1 w l0 26
  obtain ⟨g3, hg⟩ : ∃ g3, g3 = w.heap.size := ⟨_, rfl⟩
  generalize hw1 : World.alloc _ _ = w1
  rw [hw1] at b1 f1
  rw [← hg] at f1 ⊢
  have B := Lib.hid b1
  have F := Lib.hid f1
  clear hw1 b1 f1 hg
  go_wp2_with fail
  refine (first5 w1).mono ?_
  rintro e w2 ⟨rfl, hb⟩
  have F := Lib.hid (row_below F.out hb)
  have B := Lib.hid (B.out.trans (hb.mono B.out.size))
  clear hb
  go_wp2_with ((with_reducible show wpList _ _ _ _ _ _); refine wpList_load_row rfl 26 (.tmp 3) rfl g3 rfl 26 l0.toArray (0, 0) _ F.out Tryd.underlying26 rfl (by show _ = some l0.length; rw [LN0.out] <;> kernel_rfl) ?_; go_frame)
  refine (BY.out w2).mono ?_
  rintro e w3 ⟨v3, rfl, hc3⟩
  have ho3 := hc3.1
  rw [L80.out] at ho3
  obtain ⟨gb, cb, rfl, hgb, hcb⟩ := own_shape ho3 (by omega)
  have C := Lib.hid hc3
  have GB := Lib.hid hgb
  have GBW : Hid (w.heap.size ≤ gb) := Nat.le_trans B.out.size hgb
  have N3 : Hid (g3 < gb) := Nat.lt_of_lt_of_le (Array.getElem?_eq_some_iff.1 F.out).1 hgb
  have F := Lib.hid (row_below F.out hc3.2)
  have B := Lib.hid (B.out.trans (hc3.2.mono B.out.size))
  clear ho3 hc3 hgb
  go_wp2_with fail
  refine (RD.out (hdB h) h 0 l0 _ w3 HL0.out R1.out B.out C.out.src (by rw [L80.out]; omega)).mono ?_
  rintro e w4 ⟨rfl, hb⟩
  have F := Lib.hid (row_below F.out hb)
  have C := Lib.hid (C.out.keep hb)
  have B := Lib.hid (B.out.trans (hb.mono B.out.size))
  clear hb
  rw [show errV E 0 = Value.nilIface from rfl]
  have N4 : Hid (gb < w4.heap.size) := (C.out.1.lt gb rfl).2
  go_upto_region 8 with ((with_reducible show wpList _ _ _ _ _ _); refine wpList_store_row rfl 26 (.tmp 9) (.tmp 29) rfl w4.heap.size l0.toArray rfl rfl 26 _ (heap_alloc_new _ _) (by show _ = some l0.length; rw [LN0.out] <;> kernel_rfl) (by show _ = l0.length; rw [LN0.out] <;> rfl) (all_oneCell_toArray ON0.out) ?_; go_frame)
  obtain ⟨_, f2, f3, f4⟩ := fill_setup (Below.refl w4.heap.size w4) Tryd.zeroCells26 l0.toArray 26
  obtain ⟨g9, hg⟩ : ∃ g9, g9 = w4.heap.size := ⟨_, rfl⟩
  generalize hw : World.setRow _ _ _ = w5
  rw [hw] at f2 f3 f4
  rw [← hg] at f2 ⊢
  have Gg9 := Lib.hid f2
  have Ng9 : Hid (w4.heap.size ≤ g9) := by show _ ≤ _; omega
  have F := Lib.hid (row_below F.out f4)
  have C := Lib.hid (C.out.keep f4)
  have B := Lib.hid (B.out.trans (f4.mono B.out.size))
  clear hw f2 f3 f4 hg
  have N9 : Hid (gb < g9) := Nat.lt_of_lt_of_le N4.out Ng9.out
  go_wp2_with fail
  refine (NUM1.out _).mono ?_
  rintro e w' ⟨rfl, rfl⟩
  go_wp2_with ((with_reducible show wpList _ _ _ _ _ _); refine wpList_cut_h rfl 28 (.tmp 32) (.tmp 34) rfl 5 Tryd.underlying28 (by kernel_rfl) (some ⟨gb, 0, none⟩) 80 cb j rfl rfl (by omega) ?_; intro vh hvh; go_frame)
  have sc := src_sliced C.out.src 0 j (by omega) (by omega)
  rw [List.drop_zero, ← hvh.out] at sc
  have SC := Lib.hid sc
  clear sc hvh
  refine (RD.out ((hdB h).take j) hdZ 1 lz _ w5 HLZ.out R2.out B.out SC.out (by rw [List.length_take, L80.out]; omega)).mono ?_
  rintro e w6 ⟨rfl, hb⟩
  have F := Lib.hid (row_below F.out hb)
  have C := Lib.hid (C.out.keep hb)
  have Gg9 := Lib.hid (row_below Gg9.out hb)
  have B := Lib.hid (B.out.trans (hb.mono B.out.size))
  clear SC
  clear hb
  rw [show errV E 1 = Value.iface 95 (.pointer (some (E 0))) from rfl]
  go_upto_region 9 with ((with_reducible show wpList _ _ _ _ _ _); refine wpList_store_row rfl 26 (.tmp 11) (.tmp 37) rfl w6.heap.size lz.toArray rfl rfl 26 _ (heap_alloc_new _ _) (by show _ = some lz.length; rw [LNZ.out] <;> kernel_rfl) (by show _ = lz.length; rw [LNZ.out] <;> rfl) (all_oneCell_toArray ONZ.out) ?_; go_frame)
  obtain ⟨_, f2, f3, f4⟩ := fill_setup (Below.refl w6.heap.size w6) Tryd.zeroCells26 lz.toArray 26
  obtain ⟨g11, hg⟩ : ∃ g11, g11 = w6.heap.size := ⟨_, rfl⟩
  generalize hw : World.setRow _ _ _ = w7
  rw [hw] at f2 f3 f4
  rw [← hg] at f2 ⊢
  have Gg11 := Lib.hid f2
  have Ng11 : Hid (w6.heap.size ≤ g11) := by show _ ≤ _; omega
  have F := Lib.hid (row_below F.out f4)
  have C := Lib.hid (C.out.keep f4)
  have Gg9 := Lib.hid (row_below Gg9.out f4)
  have B := Lib.hid (B.out.trans (f4.mono B.out.size))
  clear hw f2 f3 f4 hg
  go_wp2_with fail
  refine (bytes_copy_any (hdB h) (some ⟨gb, 0, none⟩) 80 cb _ C.out.src (by omega)).mono ?_
  rintro e w14 ⟨rfl, ho14, hb14⟩
  have HO14 := Lib.hid ho14
  have HB14 := Lib.hid hb14
  clear ho14 hb14
  go_wp2_with (at_builtin; refine wpList_append_own _ rfl _ _ 28 rfl w7.heap.size 5 i0 (.int .u8 0) 1 1 Tryd.underlying28 hi hz0 hz1 hz2 rfl (by decide) _ _ _ rfl (HO14.out.alloc _) ⟨w14.heap.size, 0, none⟩ 1 1 [.int .u8 1] rfl rfl (cell_one_new _ _ _) (one_u8 _) (by unfold maxLen; omega) (by omega) (by have := HB14.out.size; simp; omega) ?_; intro v15 w15 ho15 hg15 hx15; clear hx15; have HO15 := Lib.hid ho15; have HG15 := Lib.hid hg15; clear ho15 hg15; go_frame)
  have hb15 : Below w7.heap.size w7 w15 := (HB14.out.alloc HB14.out.size _).grown HG15.out (by have := HB14.out.size; simp; omega) (fun k hk => by cases hk; exact Nat.le_refl _)
  have S15 : Hid (SrcB w15 v15 (hdB h ++ [1])) := src_own (n := 81) (by rw [List.map_append]; exact HO15.out)
  have F := Lib.hid (row_below F.out hb15)
  have C := Lib.hid (C.out.keep hb15)
  have Gg9 := Lib.hid (row_below Gg9.out hb15)
  have B := Lib.hid (B.out.trans (hb15.mono B.out.size))
  clear hb15 HO14 HB14 HO15 HG15
  refine (RD.out (hdB h ++ [1]) hdZ 2 lz _ w15 HLZ.out R3.out B.out S15.out (by rw [List.length_append, L80.out]; simp)).mono ?_
  rintro e w16 ⟨rfl, hb⟩
  have F := Lib.hid (row_below F.out hb)
  have C := Lib.hid (C.out.keep hb)
  have Gg9 := Lib.hid (row_below Gg9.out hb)
  have B := Lib.hid (B.out.trans (hb.mono B.out.size))
  clear S15
  clear hb
  rw [show errV E 2 = Value.iface 95 (.pointer (some (E 1))) from rfl]
  go_upto_region 10 with ((with_reducible show wpList _ _ _ _ _ _); refine wpList_store_row rfl 26 (.tmp 13) (.tmp 45) rfl w16.heap.size lz.toArray rfl rfl 26 _ (heap_alloc_new _ _) (by show _ = some lz.length; rw [LNZ.out] <;> kernel_rfl) (by show _ = lz.length; rw [LNZ.out] <;> rfl) (all_oneCell_toArray ONZ.out) ?_; go_frame)
  obtain ⟨_, f2, f3, f4⟩ := fill_setup (Below.refl w16.heap.size w16) Tryd.zeroCells26 lz.toArray 26
  obtain ⟨g13, hg⟩ : ∃ g13, g13 = w16.heap.size := ⟨_, rfl⟩
  generalize hw : World.setRow _ _ _ = w17
  rw [hw] at f2 f3 f4
  rw [← hg] at f2 ⊢
  have Gg13 := Lib.hid f2
  have Ng13 : Hid (w16.heap.size ≤ g13) := by show _ ≤ _; omega
  have F := Lib.hid (row_below F.out f4)
  have C := Lib.hid (C.out.keep f4)
  have Gg9 := Lib.hid (row_below Gg9.out f4)
  have B := Lib.hid (B.out.trans (f4.mono B.out.size))
  clear hw f2 f3 f4 hg
  have cq : w17.cell? ⟨gb, q, none⟩ = some (.int .u8 (bv x)) := by
    have hqx : q < (hdB h).length := by rw [L80.out]; omega
    have ho := C.out.1
    rw [L80.out] at ho
    rw [ho.cellAt q (by omega), List.getElem?_map, List.getElem?_eq_getElem hqx, HX.out]
    simp [bV, List.getD, List.getElem?_eq_getElem hqx]
  have zq : w17.frozen? ⟨gb, q, none⟩ = false := by
    have ho := C.out.1
    rw [L80.out] at ho
    exact ho.frozenAt q
  have hq1 := HQ1.out
  have ht1 := HT1.out
  have hx1 := HX1.out
  go_upto_region 11 with (go_at_call 9; refine (NUM2.out _).mono ?_; rintro e w' ⟨rfl, rfl⟩)
  go_upto_region 12 with (fail)
  clear cq zq hq1 ht1 hx1
  have ho5 := C.out.1
  rw [L80.out] at ho5
  obtain ⟨ho6, hg6⟩ := ho5.stored q (.int .u8 (bv y))
  rw [HSET.out, ← HBS.out] at ho6
  have hb6 := grownBy_below hg6 B.out GBW.out B.out.size
  have f6 := row_far F.out hg6 (fun e => by have := Option.some.inj e; have := N3.out; omega)
  have f9 := row_far Gg9.out hg6 (fun e => by have := Option.some.inj e; have := N9.out; omega)
  generalize hw6 : World.setCell _ _ _ = w18
  rw [hw6] at ho6 hb6 f6 f9
  have S := Lib.hid (src_own ho6)
  have F := Lib.hid f6
  have Gg9 := Lib.hid f9
  have B := Lib.hid hb6
  clear hw6 ho6 hb6 hg6 f6 f9 ho5 C HSET
  go_wp2_with fail
  refine (RD.out bs u 0 lu _ w18 HLU.out RU.out B.out S.out (by rw [HLN.out]; omega)).mono ?_
  rintro e w19 ⟨rfl, hb⟩
  have F := Lib.hid (row_below F.out hb)
  have Gg9 := Lib.hid (row_below Gg9.out hb)
  have B := Lib.hid (B.out.trans (hb.mono B.out.size))
  clear S
  clear hb
  rw [show errV E 0 = Value.nilIface from rfl]
  go_upto_region 13 with ((with_reducible show wpList _ _ _ _ _ _); refine wpList_store_row rfl 26 (.tmp 16) (.tmp 66) rfl w19.heap.size lu.toArray rfl rfl 26 _ (heap_alloc_new _ _) (by show _ = some lu.length; rw [LNU.out] <;> kernel_rfl) (by show _ = lu.length; rw [LNU.out] <;> rfl) (all_oneCell_toArray ONU.out) ?_; go_frame)
  obtain ⟨_, f2, f3, f4⟩ := fill_setup (Below.refl w19.heap.size w19) Tryd.zeroCells26 lu.toArray 26
  obtain ⟨g16, hg⟩ : ∃ g16, g16 = w19.heap.size := ⟨_, rfl⟩
  generalize hw : World.setRow _ _ _ = w20
  rw [hw] at f2 f3 f4
  rw [← hg] at f2 ⊢
  have Gg16 := Lib.hid f2
  have Ng16 : Hid (w19.heap.size ≤ g16) := by show _ ≤ _; omega
  have F := Lib.hid (row_below F.out f4)
  have Gg9 := Lib.hid (row_below Gg9.out f4)
  have B := Lib.hid (B.out.trans (f4.mono B.out.size))
  clear hw f2 f3 f4 hg
  go_wp2_with (first | ((with_reducible show wpList _ _ _ _ _ _); refine wpList_load_rowG 26 (.tmp 9) rfl g9 rfl 26 l0.toArray (0, 0) _ Gg9.out Tryd.underlying26 rfl (by show _ = some l0.length; rw [LN0.out] <;> kernel_rfl) rfl ?_; go_frame) | ((with_reducible show wpList _ _ _ _ _ _); refine wpList_load_rowG 26 (.tmp 3) rfl g3 rfl 26 l0.toArray (0, 0) _ F.out Tryd.underlying26 rfl (by show _ = some l0.length; rw [LN0.out] <;> kernel_rfl) rfl ?_; go_frame))
  refine (SM1.out w20).mono ?_
  rintro e w21 ⟨rfl, hb⟩
  have F := Lib.hid (row_below F.out hb)
  have Gg16 := Lib.hid (row_below Gg16.out hb)
  have B := Lib.hid (B.out.trans (hb.mono B.out.size))
  clear hb
  go_wp2_with fail
  refine (is_any E 1 101 true rfl _ (HE.out.below B.out) (by omega)).mono ?_
  rintro e w22 ⟨rfl, hb⟩
  have F := Lib.hid (row_below F.out hb)
  have Gg16 := Lib.hid (row_below Gg16.out hb)
  have B := Lib.hid (B.out.trans (hb.mono B.out.size))
  clear hb
  go_wp2_with fail
  refine (is_any E 2 102 true rfl _ (HE.out.below B.out) (by omega)).mono ?_
  rintro e w23 ⟨rfl, hb⟩
  have F := Lib.hid (row_below F.out hb)
  have Gg16 := Lib.hid (row_below Gg16.out hb)
  have B := Lib.hid (B.out.trans (hb.mono B.out.size))
  clear hb
  go_wp2_with (first | ((with_reducible show wpList _ _ _ _ _ _); refine wpList_load_rowG 26 (.tmp 16) rfl g16 rfl 26 lu.toArray (0, 0) _ Gg16.out Tryd.underlying26 rfl (by show _ = some lu.length; rw [LNU.out] <;> kernel_rfl) rfl ?_; go_frame) | ((with_reducible show wpList _ _ _ _ _ _); refine wpList_load_rowG 26 (.tmp 3) rfl g3 rfl 26 l0.toArray (0, 0) _ F.out Tryd.underlying26 rfl (by show _ = some l0.length; rw [LN0.out] <;> kernel_rfl) rfl ?_; go_frame))
  refine (SM2.out w23).mono ?_
  rintro e w24 ⟨rfl, hb⟩
  have B := Lib.hid (B.out.trans (hb.mono B.out.size))
  clear hb
  go_wp2_with fail
  go_ret
  exact ⟨rfl, B.out⟩
end Go.Proofs.YtlfpjfhpleociaaDoor.Sha

/-
  How the statements' arguments and the listed table read: a slice of bytes or numbers that came in, the table of the rounds' words, a start that fits. No conditions.
-/
namespace Go.Proofs.YtlfpjfhpleociaaDoor.Sha
open Go Go.ChangeShapes Go.WideShapes Go.ChangeAt Go.RowKit
theorem gTab : Tryd.prog.globalNamed "sargasso/digest.roundWords" = some 25 := by kernel_rfl
theorem gTabType : (Tryd.prog.globals[25]?).map (·.type) = some 91 := by kernel_rfl
theorem cellsTab : Tryd.prog.cellsOf 91 = 64 := by kernel_rfl
theorem cellsU32 : Tryd.prog.cellsOf 22 = 1 := by kernel_rfl
def kInts : List Int := kList.map wv
theorem kInts_get (t : Nat) (h : t < 64) : kInts.getD t 0 = wv (kW t) := by
  unfold kInts kW
  simp only [List.getD, List.getElem?_map]
  rw [List.getElem?_eq_getElem (show t < kList.length from h)]
  rfl
theorem laid_list {H : Type} : (Rows.laid_sargasso_digest_roundWords : DataW H) = Lib.tabData .u32 kInts := rfl
/-- WHAT THE ROW's LIST GIVES: the table's cells. -/
theorem table {W : World} (h : laidMetH Tryd.prog [("sargasso/digest.roundWords", Rows.laid_sargasso_digest_roundWords)] W) : KTab W := by
  rw [laid_list] at h
  have hT := Lib.tabIs_of_head (rest := []) gTab gTabType Tryd.underlying91 Tryd.underlying22 cellsU32 cellsTab h
  intro t ht
  rw [hT.cell gTab t (show t < 64 from ht), kInts_get t ht]
/-- A WORLD FOR THE WITNESS: the settled one, the table holding what its initialiser lays. -/
noncomputable def laidWorld (os : Os) : World :=
  { World.holding Tryd.prog os ⟨#[], #[], []⟩ with heap := (World.holding Tryd.prog os ⟨#[], #[], []⟩).heap.modify 25 fun
      | .cells _ t frozen => .cells (kList.map wV).toArray t frozen
      | o => o }
end Go.Proofs.YtlfpjfhpleociaaDoor.Sha

/-
  digest.Sha answers the SHA-256 of the bytes that it is given, digest.Twice that of that, and turn nothing that was there. Conditions: the bytes lie where the slice says, the table is there, fewer than 2^59 bytes.
-/
namespace Go.Proofs.YtlfpjfhpleociaaDoor.Sha
open Go Go.RowKit
/-- Write, whatever the slice. -/
theorem write_any (l bs : List UInt8) (v : Value) (B : Nat) (w : World) (hk : KTab w) (hB0 : B ≠ 25) (hsrc : SrcB w v bs) (hne : ∀ sp n cap, v = .slice (some sp) n cap → 0 < n → sp.block ≠ B)
    (hlen : l.length + bs.length ≤ 1152921504606846975) (hinv : WInv w B l) :
    Calls Tryd.prog 39 #[.pointer (some ⟨B, 0, none⟩), v] w fun e w' =>
      e = .returned (.tuple #[]) ∧ WInv w' B (l ++ bs) ∧ w.grownBy w' (some B) := by
  rcases hsrc with ⟨sp, cap, rfl, rfl⟩ | ⟨h0, bb, off, cap, rfl, hc, hs⟩
  · rw [List.append_nil]
    exact write_none l sp cap B w (by simpa using hlen) hinv
  · exact write_some l bs bb off cap B w hk hB0 (hne _ _ _ rfl h0) hc hlen hinv hs
theorem sha_setup (w : World) (z : Array Value) (T : TypeId) : Below w.heap.size w ((w.alloc (.cells z T)).alloc (.cells zeroW 79))
    ∧ ((w.alloc (.cells z T)).alloc (.cells zeroW 79)).heap.size = w.heap.size + 2
    ∧ ((w.alloc (.cells z T)).alloc (.cells zeroW 79)).heap[w.heap.size + 1]? = some (.cells zeroW 79 (0, 0))
    ∧ ((w.alloc (.cells z T)).alloc (.cells zeroW 79)).heap[w.heap.size]? = some (.cells z T (0, 0)) :=
  ⟨((Below.refl _ _).alloc (Nat.le_refl _) _).alloc (by simp) _, by simp, heap_alloc2_new _ _ _, heap_alloc2_old _ _ _⟩
set_option maxHeartbeats 1000000 in
set_option maxRecDepth 100000 in
theorem sha_any (bs : List UInt8) (v : Value) (w : World) (hk : KTab w) (hsrc : SrcB w v bs) (hlen : bs.length ≤ 576460752303423487) :
    Calls Tryd.prog 32 #[v] w fun e w' => e = .returned (.agg ((sha bs).map bV).toArray) ∧ Below w.heap.size w w' := by
  have hzw := zero_writer
  have HK := Lib.hid hk
  have HS := Lib.hid hsrc
  clear hk hsrc
  go_enter Tryd.func32, Tryd.ntmps32
  go_wp2_with fail
  obtain ⟨f1, f2, f3, f4⟩ := sha_setup w (List.replicate 32 (bV 0)).toArray 24
  generalize hw1 : World.alloc _ _ = w1
  have e1 : ((w.alloc (.cells (List.replicate 32 (bV 0)).toArray 24)).alloc (.cells zeroW 79)) = w1 := hw1
  rw [e1] at f1 f2 f3 f4
  have hK1 := HK.out.below f1
  have hp := HK.out.pos
  clear hw1 e1 hzw
  refine (write_any [] bs v (w.heap.size + 1) w1 hK1 (by omega) (HS.out.below f1) (HS.out.ne (Nat.le_succ _)) (by simpa using Nat.le_trans hlen (by omega)) (zero_inv f3)).mono ?_
  rintro e w2 ⟨rfl, hI, hG⟩
  rw [List.nil_append] at hI
  have B2 := grownBy_below hG f1 (Nat.le_succ _) (by omega)
  have h2 : w2.heap[w.heap.size]? = some (.cells (List.replicate 32 (bV 0)).toArray 24 (0, 0)) := by
    rw [hG.block _ (by omega) (fun e => by have := Option.some.inj e; omega)]
    exact f4
  have hs2 : w.heap.size < w2.heap.size := by have := hG.size; omega
  have HI := Lib.hid hI
  have HB2 := Lib.hid B2
  have HH2 := Lib.hid h2
  clear f1 f2 f3 f4 hK1 hI hG B2 h2
  go_wp2_with fail
  refine (sum_any bs (w.heap.size + 1) w2 (HK.out.below HB2.out) hlen HI.out).mono ?_
  rintro e w3 ⟨rfl, hb3⟩
  have h3 : w3.heap[w.heap.size]? = some (.cells (List.replicate 32 (bV 0)).toArray 24 (0, 0)) := by rw [hb3.block _ hs2]; exact HH2.out
  have HH3 := Lib.hid h3
  have B3 := Lib.hid (HB2.out.trans (hb3.mono (by omega)))
  have hl : ((sha bs).map bV).toArray.size = 32 := by simp [sha_length]
  have HL := Lib.hid hl
  clear h3 hb3 hl
  go_wp2_with ((with_reducible show wpList _ _ _ _ _ _); refine wpList_store_row rfl 24 (.tmp 2) (.tmp 6) rfl w.heap.size ((sha bs).map bV).toArray rfl rfl 24 _ HH3.out (by rw [HL.out]; kernel_rfl) (by rw [HL.out]; rfl) (bV_one _) ?_; go_frame)
  refine bodyPost_ret (results_cell_row rfl _ _ w.heap.size 24 ((sha bs).map bV).toArray (0, 0) (.array 32 5) rfl (setRow_heap _ _ _ _ _ _ HH3.out) Tryd.underlying24 rfl (by rw [HL.out]; kernel_rfl)) rfl ⟨rfl, below_setRow B3.out (Nat.le_refl _) _⟩
end Go.Proofs.YtlfpjfhpleociaaDoor.Sha

/-
  digest.Twice and the statements' own Twice answer the SHA-256 of the SHA-256 of the bytes; nothing that was there turns. Conditions: the bytes lie where the slice says, fewer than 2^45; for digest.Twice the table is there.
-/
namespace Go.Proofs.YtlfpjfhpleociaaDoor.Sha
open Go Go.RowKit
set_option maxHeartbeats 1000000 in
set_option maxRecDepth 100000 in
theorem twice_any (bs : List UInt8) (v : Value) (w : World) (hk : KTab w) (hsrc : SrcB w v bs) (hlen : bs.length ≤ 576460752303423487) :
    Calls Tryd.prog 24 #[v] w fun e w' => e = .returned (.agg ((sha (sha bs)).map bV).toArray) ∧ Below w.heap.size w w' := by
  have HK := Lib.hid hk
  have HS := Lib.hid hsrc
  have hl : ∀ l : List UInt8, l.length = 32 → (l.map bV).toArray.size = 32 := fun l h => by simp [h]
  have HL := Lib.hid hl
  clear hk hsrc hl
  go_enter Tryd.func24, Tryd.ntmps24
  go_wp2_with fail
  have b0 : Below w.heap.size w (w.alloc (.cells (List.replicate 32 (bV 0)).toArray 24)) := (Below.refl _ _).alloc (Nat.le_refl _) _
  have f0 : (w.alloc (.cells (List.replicate 32 (bV 0)).toArray 24)).heap[w.heap.size]? = some (.cells (List.replicate 32 (bV 0)).toArray 24 (0, 0)) := heap_alloc_new _ _
  have z0 : w.heap.size < (w.alloc (.cells (List.replicate 32 (bV 0)).toArray 24)).heap.size := by simp
  generalize hw0 : World.alloc _ _ = w0
  have q0 : w.alloc (.cells (List.replicate 32 (bV 0)).toArray 24) = w0 := hw0
  rw [q0] at b0 f0 z0
  clear hw0 q0
  refine (sha_any bs v w0 (HK.out.below b0) (HS.out.below b0) hlen).mono ?_
  rintro e w1 ⟨rfl, hb1⟩
  have e1 : Below w.heap.size w w1 := b0.trans (hb1.mono b0.size)
  have e2 : w1.heap[w.heap.size]? = some (.cells (List.replicate 32 (bV 0)).toArray 24 (0, 0)) := row_below f0 hb1
  have e3 : w.heap.size < w1.heap.size := Nat.lt_of_lt_of_le z0 hb1.size
  have E1 := Lib.hid e1
  have E2 := Lib.hid e2
  clear b0 f0 z0 hb1 e1 e2
  go_upto_region 2 with ((with_reducible show wpList _ _ _ _ _ _); refine wpList_store_row rfl 24 (.tmp 3) (.tmp 5) rfl w1.heap.size ((sha bs).map bV).toArray rfl rfl 24 _ (heap_alloc_new _ _) (by rw [HL.out _ (sha_length _)]; kernel_rfl) (by rw [HL.out _ (sha_length _)]; rfl) (bV_one _) ?_; go_frame)
  have e1 := E1.out
  have e2 := E2.out
  clear E1 E2
  obtain ⟨f1, f2, f3, f4⟩ := fill_setup e1 (List.replicate 32 (bV 0)).toArray ((sha bs).map bV).toArray 24
  have e4 : ((w1.alloc (.cells (List.replicate 32 (bV 0)).toArray 24)).setRow w1.heap.size ((sha bs).map bV).toArray).heap[w.heap.size]? = some (.cells (List.replicate 32 (bV 0)).toArray 24 (0, 0)) := by rw [f4.block _ e3]; exact e2
  obtain ⟨g, hg⟩ : ∃ g, g = w1.heap.size := ⟨_, rfl⟩
  generalize hw2 : World.setRow _ _ _ = w2
  have e5 : ((w1.alloc (.cells (List.replicate 32 (bV 0)).toArray 24)).setRow w1.heap.size ((sha bs).map bV).toArray) = w2 := hw2
  rw [e5] at f1 f2 f3 f4 e4
  rw [← hg] at f2 f3 ⊢
  have HK2 := Lib.hid (HK.out.below f1)
  have HS2 := Lib.hid (src_block (sha_length bs) f2)
  have F1 := Lib.hid f1
  have E4 := Lib.hid e4
  have hlt : w.heap.size < w2.heap.size := by omega
  clear f1 f2 f3 f4 e1 e2 e3 e4 e5 hw2 hg
  go_wp2_with fail
  refine (sha_any (sha bs) _ _ HK2.out HS2.out (by rw [sha_length]; omega)).mono ?_
  rintro e w3 ⟨rfl, hb3⟩
  have h3 : w3.heap[w.heap.size]? = some (.cells (List.replicate 32 (bV 0)).toArray 24 (0, 0)) := by rw [hb3.block _ hlt]; exact E4.out
  have H3 := Lib.hid h3
  have B3 := Lib.hid (F1.out.trans (hb3.mono (by omega)))
  clear h3 hb3
  go_wp2_with ((with_reducible show wpList _ _ _ _ _ _); refine wpList_store_row rfl 24 (.tmp 2) (.tmp 7) rfl w.heap.size ((sha (sha bs)).map bV).toArray rfl rfl 24 _ H3.out (by rw [HL.out _ (sha_length _)]; kernel_rfl) (by rw [HL.out _ (sha_length _)]; rfl) (bV_one _) ?_; go_frame)
  refine bodyPost_ret (results_cell_row rfl _ _ w.heap.size 24 ((sha (sha bs)).map bV).toArray (0, 0) (.array 32 5) rfl (setRow_heap _ _ _ _ _ _ H3.out) Tryd.underlying24 rfl (by rw [HL.out _ (sha_length _)]; kernel_rfl)) rfl ⟨rfl, below_setRow B3.out (Nat.le_refl _) _⟩
end Go.Proofs.YtlfpjfhpleociaaDoor.Sha

/-
  Package head answers the digest that a header goes by. Nothing that was there turns. Conditions: a header of digests of 32 bytes, the table is there.
-/
namespace Go.Proofs.YtlfpjfhpleociaaDoor.Sha
open Go Go.RowKit
/-- A header's digest. -/
def hdId (h : THd) : List UInt8 := sha (sha (hdB h))
theorem hdId_length (h : THd) : (hdId h).length = 32 := sha_length _
set_option maxHeartbeats 1000000 in
set_option maxRecDepth 100000 in
theorem id_hd (h : THd) (hh : HdOk h) (w : World) (hk : KTab w) :
    Calls Tryd.prog 16 #[.agg (hdL h).toArray] w fun e w' => e = .returned (.agg ((hdId h).map bV).toArray) ∧ Below w.heap.size w w' := by
  have HH := Lib.hid hh
  have HK := Lib.hid hk
  have HOne := Lib.hid (bV_one (hdId h))
  have HLen : Hid ((((hdId h).map bV).toArray).size = 32) := by show _ = _; simp [hdId_length]
  obtain ⟨dg, hdg⟩ : ∃ dg, dg = ((hdId h).map bV).toArray := ⟨_, rfl⟩
  rw [← hdg] at HOne HLen ⊢
  have HD := Lib.hid hdg
  obtain ⟨l0, hl0⟩ : ∃ l, l = hdL h := ⟨_, rfl⟩
  have LN0 : Hid (l0.length = 68) := by show _ = _; rw [hl0]; exact hdL_length hh
  have BY : Hid (∀ W, Calls Tryd.prog 7 #[.agg l0.toArray] W fun e w' => ∃ v, e = .returned v ∧ CopyB W w' v (hdB h)) := fun W => by rw [hl0]; exact hdbytes_any h HH.out W
  rw [← hl0]
  clear hdg hk hh hl0
  go_enter Tryd.func16, Tryd.ntmps16
  go_upto_region 1 with fail
  have f1 := row_below (heap_alloc_new w (.cells l0.toArray 26 (0, 0))) ((Below.refl _ _).alloc (Nat.le_refl _) (.cells (List.replicate 32 (bV 0)).toArray 24))
  have f2 := heap_alloc_new (w.alloc (.cells l0.toArray 26 (0, 0))) (.cells (List.replicate 32 (bV 0)).toArray 24)
  have b1 := ((Below.refl w.heap.size w).alloc (Nat.le_refl _) (.cells l0.toArray 26 (0, 0))).alloc (by simp) (.cells (List.replicate 32 (bV 0)).toArray 24)
  rw [World.size_alloc] at f2
  generalize hw1 : World.alloc _ _ = w1
  have e1 : (w.alloc (.cells l0.toArray 26 (0, 0))).alloc (.cells (List.replicate 32 (bV 0)).toArray 24) = w1 := hw1
  rw [e1] at f1 f2 b1
  have F1 := Lib.hid f1
  have F2 := Lib.hid f2
  have B1 := Lib.hid b1
  clear f1 f2 b1 hw1 e1
  go_wp2_with ((with_reducible show wpList _ _ _ _ _ _); refine wpList_load_row rfl 26 (.tmp 1) rfl w.heap.size rfl 26 l0.toArray (0, 0) _ F1.out Tryd.underlying26 rfl (by show _ = some l0.length; rw [LN0.out] <;> kernel_rfl) ?_; go_frame)
  refine (BY.out w1).mono ?_
  rintro e w2 ⟨v2, rfl, hc⟩
  have S2 := Lib.hid hc.src
  have B2 := Lib.hid (B1.out.trans (hc.2.mono B1.out.size))
  have F2 := Lib.hid (row_below F2.out hc.2)
  have HLn : Hid ((hdB h).length ≤ 576460752303423487) := by show _ ≤ _; rw [hdB_length HH.out]; omega
  clear hc
  go_wp2_with fail
  have TW := twice_any (hdB h) v2 w2 (HK.out.below B2.out) S2.out HLn.out
  change Calls _ _ _ _ (fun e w' => e = .returned (.agg ((hdId h).map bV).toArray) ∧ Below w2.heap.size w2 w') at TW
  rw [← HD.out] at TW
  refine TW.mono ?_
  rintro e w3 ⟨rfl, hb3⟩
  clear TW
  have B3 := Lib.hid (B2.out.trans (hb3.mono B2.out.size))
  have F3 := Lib.hid (row_below F2.out hb3)
  clear hb3
  go_wp2_with ((with_reducible show wpList _ _ _ _ _ _); refine wpList_store_row rfl 24 (.tmp 2) (.tmp 5) rfl (w.heap.size + 1) dg rfl rfl 24 _ F3.out (by rw [HLen.out]; kernel_rfl) (by rw [HLen.out]; rfl) HOne.out ?_; go_frame)
  refine bodyPost_ret (results_cell_row rfl _ _ (w.heap.size + 1) 24 dg (0, 0) (.array 32 5) rfl (setRow_heap _ _ _ _ _ _ F3.out) Tryd.underlying24 rfl (by rw [HLen.out]; kernel_rfl)) rfl ⟨rfl, below_setRow B3.out (Nat.le_succ _) _⟩
end Go.Proofs.YtlfpjfhpleociaaDoor.Sha

/-
  Plain mathematics: a header with one part of another one: its bytes are the same elsewhere. Conditions: digests of 32 bytes.
-/
namespace Go.Proofs.YtlfpjfhpleociaaDoor.Sha
open Go Go.RowKit
def mixH (h x : THd) (k : Nat) : THd :=
  if k = 0 then { h with ver := x.ver } else if k = 1 then { h with prev := x.prev } else if k = 2 then { h with root := x.root } else if k = 3 then { h with time := x.time } else if k = 4 then { h with work := x.work } else { h with nonce := x.nonce }
def fromN (k : Nat) : Nat := [0, 4, 36, 68, 72, 76].getD k 0
def toN (k : Nat) : Nat := [4, 36, 68, 72, 76, 80].getD k 0
theorem mix_ok {h x : THd} (hh : HdOk h) (hx : HdOk x) (k : Nat) : HdOk (mixH h x k) := by
  obtain ⟨a1, a2, a3, a4, a5, a6⟩ := hh
  obtain ⟨b1, b2, b3, b4, b5, b6⟩ := hx
  unfold mixH
  split
  · exact ⟨b1, a2, a3, a4, a5, a6⟩
  split
  · exact ⟨a1, b2, a3, a4, a5, a6⟩
  split
  · exact ⟨a1, a2, b3, a4, a5, a6⟩
  split
  · exact ⟨a1, a2, a3, b4, a5, a6⟩
  split
  · exact ⟨a1, a2, a3, a4, b5, a6⟩
  · exact ⟨a1, a2, a3, a4, a5, b6⟩
theorem cut_same {A B C B' : List UInt8} {f t : Nat} (h1 : A.length = f) (h2 : (A ++ B).length = t) (h3 : B'.length = B.length) : (A ++ B' ++ C).take f = (A ++ B ++ C).take f ∧ (A ++ B' ++ C).drop t = (A ++ B ++ C).drop t := by
  subst h1 h2
  constructor
  · rw [List.append_assoc, List.append_assoc, List.take_left, List.take_left]
  · rw [show (A ++ B).length = (A ++ B').length by simp [h3], List.drop_left, List.append_assoc A B C, show (A ++ B').length = A.length + B.length by simp [h3], ← List.drop_drop, List.drop_left, List.drop_left]
theorem mix_cut {h x : THd} (hh : HdOk h) (hx : HdOk x) (k : Nat) (hk : k < 6) : (hdB (mixH h x k)).take (fromN k) = (hdB h).take (fromN k) ∧ (hdB (mixH h x k)).drop (toN k) = (hdB h).drop (toN k) := by
  obtain ⟨a1, a2, a3, a4, a5, a6⟩ := hh
  obtain ⟨b1, b2, b3, b4, b5, b6⟩ := hx
  have e0 : ∀ g : THd, hdB g = [] ++ leB g.ver 4 ++ (g.prev ++ g.root ++ leB g.time 4 ++ leB g.work 4 ++ leB g.nonce 4) := fun g => by simp [hdB]
  have e1 : ∀ g : THd, hdB g = leB g.ver 4 ++ g.prev ++ (g.root ++ leB g.time 4 ++ leB g.work 4 ++ leB g.nonce 4) := fun g => by simp [hdB]
  have e2 : ∀ g : THd, hdB g = (leB g.ver 4 ++ g.prev) ++ g.root ++ (leB g.time 4 ++ leB g.work 4 ++ leB g.nonce 4) := fun g => by simp [hdB]
  have e3 : ∀ g : THd, hdB g = (leB g.ver 4 ++ g.prev ++ g.root) ++ leB g.time 4 ++ (leB g.work 4 ++ leB g.nonce 4) := fun g => by simp [hdB]
  have e4 : ∀ g : THd, hdB g = (leB g.ver 4 ++ g.prev ++ g.root ++ leB g.time 4) ++ leB g.work 4 ++ leB g.nonce 4 := fun g => by simp [hdB]
  have e5 : ∀ g : THd, hdB g = (leB g.ver 4 ++ g.prev ++ g.root ++ leB g.time 4 ++ leB g.work 4) ++ leB g.nonce 4 ++ [] := fun g => by simp [hdB]
  match k, hk with
  | 0, _ => rw [e0, e0 h]; exact cut_same rfl (by simp [leB_length, toN]) (by simp [mixH, leB_length])
  | 1, _ => rw [e1, e1 h]; exact cut_same (by simp [leB_length, fromN, mixH]) (by simp [leB_length, toN, mixH, a2]) (by simp [mixH, a2, b2])
  | 2, _ => rw [e2, e2 h]; exact cut_same (by simp [leB_length, fromN, mixH, a2]) (by simp [leB_length, toN, mixH, a2, a3]) (by simp [mixH, a3, b3])
  | 3, _ => rw [e3, e3 h]; exact cut_same (by simp [leB_length, fromN, mixH, a2, a3]) (by simp [leB_length, toN, mixH, a2, a3]) (by simp [mixH, leB_length])
  | 4, _ => rw [e4, e4 h]; exact cut_same (by simp [leB_length, fromN, mixH, a2, a3]) (by simp [leB_length, toN, mixH, a2, a3]) (by simp [mixH, leB_length])
  | 5, _ => rw [e5, e5 h]; exact cut_same (by simp [leB_length, fromN, mixH, a2, a3]) (by simp [leB_length, toN, mixH, a2, a3]) (by simp [mixH, leB_length])
theorem from_bd (k : Nat) (hk : k < 6) : fromN k ≤ 80 ∧ toN k ≤ 80 := by
  match k, hk with
  | 0, _ | 1, _ | 2, _ | 3, _ | 4, _ | 5, _ => decide
theorem byte_mod (n : Nat) : bv (UInt8.ofNat n) = (n : Int) % 256 := by rw [← bv_of, IntKind.wrap_u8']
theorem leB_four (n : Nat) : leB n 4 = [UInt8.ofNat n, UInt8.ofNat (n / 256), UInt8.ofNat (n / 65536), UInt8.ofNat (n / 16777216)] := by
  simp [leB]
theorem hd_byte0 (h : THd) : bv ((hdB h).getD 0 0) = (h.ver : Int) % 256 := by
  rw [← byte_mod]
  simp [hdB, leB_four]
theorem hdB_time {h : THd} (hh : HdOk h) (j : Nat) (hj : j < 4) : (hdB h).getD (68 + j) 0 = (leB h.time 4).getD j 0 := by
  have e : hdB h = (leB h.ver 4 ++ h.prev ++ h.root) ++ (leB h.time 4 ++ (leB h.work 4 ++ leB h.nonce 4)) := by simp [hdB]
  have l : (leB h.ver 4 ++ h.prev ++ h.root).length = 68 := by simp [leB_length, hh.2.1, hh.2.2.1]
  simp only [List.getD]
  rw [e, List.getElem?_append_right (by omega), l, Nat.add_sub_cancel_left, List.getElem?_append_left (by rw [leB_length]; exact hj)]
theorem hd_byte68 {h : THd} (hh : HdOk h) : bv ((hdB h).getD 68 0) = (h.time : Int) % 256 := by
  rw [← byte_mod, hdB_time hh 0 (by omega), leB_four]
  rfl
theorem hd_byte71 {h : THd} (hh : HdOk h) : bv ((hdB h).getD 71 0) = ((h.time / 16777216 : Nat) : Int) % 256 := by
  rw [← byte_mod, hdB_time hh 3 (by omega), leB_four]
  rfl
theorem from_cell (k : Nat) (hk : k < 6) : (#[.int .i64 0, .int .i64 4, .int .i64 36, .int .i64 68, .int .i64 72, .int .i64 76] : Array Value)[k]? = some (.int .i64 (fromN k : Int)) := by
  match k, hk with
  | 0, _ | 1, _ | 2, _ | 3, _ | 4, _ | 5, _ => rfl
theorem to_cell (k : Nat) (hk : k < 6) : (#[.int .i64 4, .int .i64 36, .int .i64 68, .int .i64 72, .int .i64 76, .int .i64 80] : Array Value)[k]? = some (.int .i64 (toN k : Int)) := by
  match k, hk with
  | 0, _ | 1, _ | 2, _ | 3, _ | 4, _ | 5, _ => rfl
end Go.Proofs.YtlfpjfhpleociaaDoor.Sha
