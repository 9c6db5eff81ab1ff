/-
  Texts of this proof joined into one file: BlFirst7, HdSame, BlSame, BlBackWalk. What each holds, and under which conditions, its own first sentence tells.
-/
import Derived.IntWalk
import Derived.Test.YtdamhoagiooicaaGreatDoorMg20
import Derived.Test.YtdamhoagiooicaaGreatDoorMg19
import Derived.Test.YtdamhoagiooicaaGreatDoorMg14
import Derived.Test.YtdamhoagiooicaaGreatDoorMg09
import Derived.Test.YtdamhoagiooicaaGreatDoorMg06
import Derived.Test.YtdamhoagiooicaaGreatDoorMg10
import Derived.Test.YtdamhoagiooicaaGreatDoorMg07
import Derived.Test.YtdamhoagiooicaaGreatDoorMg15
import Derived.Test.YtdamhoagiooicaaGreatDoorMg16
import Derived.Test.YtdamhoagiooicaaGreatDoorMg18
import Derived.Test.YtdamhoagiooicaaGreatDoorMg08
import Derived.Test.YtdamhoagiooicaaGreatDoorMg02
import Derived.Test.YtdamhoagiooicaaGreatDoorMg05
/-
  What the checks say of a first transaction and of the block that each chain begins with: nothing. No conditions beyond those that each states.
-/
namespace Go.Proofs.YtdamhoagiooicaaGreatDoor.Sha
open Go Go.RowKit
theorem firstT_base (h32 val : Nat) (lock ex : List UInt8) : baseB (firstT h32 val lock ex) = true := by
  show isNullIn (firstX h32 ex) = true
  unfold isNullIn firstX
  rw [zH_null]
  rfl
theorem firstT_bytes {h32 val : Nat} {lock ex : List UInt8} (hl : lock.length = 32) (he : ex.length ≤ 76) : (txB (firstT h32 val lock ex)).length = 95 + ex.length := by
  have e1 : ∀ n, n < 253 → lenN n = 1 := fun n hn => by unfold lenN; rw [if_pos hn]
  simp only [txB, firstT, insB, outsB, inB, outB, firstX, List.flatMap_cons, List.flatMap_nil, List.length_append, leB_length, putL_length, List.length_cons, List.length_nil, zH_length, hl]
  rw [e1 1 (by omega), e1 (4 + ex.length) (by omega)]
  omega
theorem firstT_check {h32 val : Nat} {lock ex : List UInt8} (h1 : h32 ≤ 4294967295) (hv : val ≤ 2100000000000000) (hl : lock.length = 32) (he : ex.length ≤ 76) : checkC (firstT h32 val lock ex) = 0 := by
  rw [chkC_rest (by simp [firstT])]
  have hk : (firstX h32 ex).key.length = 4 + ex.length := by simp [firstX, leB_length]
  have hs : sumIs [val] = true := by
    unfold sumIs
    rw [decide_eq_true_eq, most_eq]
    simp
    omega
  rw [if_neg (by rw [firstT_bytes hl he]; omega), if_neg (by show ¬ 80 < max 0 (firstX h32 ex).key.length; omega), if_neg (by show ¬ sumIs [val] = false; rw [hs]; simp), if_neg (by show ¬ (false || false) = true; simp)]
  have hr : rightB (firstT h32 val lock ex) = true := by
    unfold rightB
    rw [firstT_base, if_pos rfl]
    show (!((decide ((firstX h32 ex).key.length < 4)) || false)) = true
    rw [hk, decide_eq_false (by omega)]
    rfl
  rw [hr, if_pos rfl]
theorem start_len : (blkB startX).length = 176 := by
  rw [blkB_len startX_ok]
  show 80 + lenN 1 + (txB startT ++ []).length = 176
  rw [List.append_nil, show (txB startT).length = 95 from firstT_bytes (sha_length _) (by simp)]
  rfl
theorem one_each {l : List TTx} {t : TTx} (h : l = [t]) (hc : checkC t = 0) (hb : baseB t = true) : eachR l = (0, none) := by
  subst h
  refine eachR_fine (fun j u hu => ?_) (fun j u hu => ?_)
  · cases j with
    | zero => simp at hu; rw [← hu]; exact hc
    | succ j => simp at hu
  · cases j with
    | zero => simp at hu; rw [← hu, hb]; rfl
    | succ j => simp at hu
theorem start_root : blRoot startX = startX.head.root := rfl
theorem start_fine : blkR startX = (0, none) := by
  unfold blkR
  rw [if_neg (by decide), if_neg (by simp [startX]), if_neg (by rw [start_len]; omega), one_each (l := startX.txs) rfl (firstT_check (by omega) (by omega) (sha_length _) (by simp)) (firstT_base _ _ _ _), if_neg (by simp), if_neg (by show ¬ (false || false) = true; simp), if_pos start_root]
set_option maxHeartbeats 2000000 in
set_option maxRecDepth 100000 in
theorem first7 (E : Nat → Addr) (w : World) (hk : KTab w) (hE : ErB w E) : Calls Tryz.prog 5 #[] w fun e w' => e = .returned (.bool true) ∧ Below w.heap.size w w' := by
  have HK := Lib.hid hk
  have HE := Lib.hid hE
  clear hk hE
  go_enter Tryz.func5, Tryz.ntmps5
  go_wp2_with fail
  refine (blstart_any w HK.out).mono ?_
  rintro e w1 ⟨v1, rfl, ha1, hb1⟩
  have B1 := Lib.hid hb1
  have CK : Hid (Calls Tryz.prog 22 #[v1] w1 fun e w' => e = .returned .nilIface ∧ Below w1.heap.size w1 w') := by
    refine (blcheck_any E startX v1 w1 ha1 startX_small (HK.out.below hb1) (HE.out.below hb1)).mono ?_
    rintro e w' ⟨u, rfl, hf, hb⟩
    rw [start_fine] at hf
    rcases hf with ⟨_, rfl⟩ | ⟨q, p, g, h, _⟩
    · exact ⟨rfl, hb⟩
    · cases h
  clear hb1 ha1
  go_wp2_with fail
  refine CK.out.mono ?_
  rintro e w2 ⟨rfl, hb2⟩
  have B2 := Lib.hid (B1.out.trans (hb2.mono B1.out.size))
  clear hb2 CK
  go_wp2_with fail
  refine (blstart_any w2 (HK.out.below B2.out)).mono ?_
  rintro e w3 ⟨v3, rfl, ha3, hb3⟩
  have B3 := Lib.hid (B2.out.trans (hb3.mono B2.out.size))
  have IC : Hid (Calls Tryz.prog 20 #[v3] w3 fun e w' => ∃ sp cap, e = .returned (.slice sp 1 cap) ∧ Below w3.heap.size w3 w') := by
    refine (ids_any startX v3 w3 ha3 startX_small (HK.out.below B3.out)).mono ?_
    rintro e w' ⟨v', rfl, ho, hb⟩
    obtain ⟨sp, cap, rfl⟩ := ho.at.shape
    exact ⟨sp, cap, rfl, hb⟩
  clear hb3 ha3
  go_wp2_with fail
  refine IC.out.mono ?_
  rintro e w4 ⟨sp, cap, rfl, hb4⟩
  have B4 := Lib.hid (B3.out.trans (hb4.mono B3.out.size))
  clear hb4 IC
  go_wp2_with fail
  go_ret
  exact ⟨rfl, B4.out⟩
end Go.Proofs.YtdamhoagiooicaaGreatDoor.Sha

/-
  The statements' own SameHead tells whether two headers are one. Nothing that was there turns. Condition: digests of 32 bytes, numbers of 32 bits.
-/
namespace Go.Proofs.YtdamhoagiooicaaGreatDoor.Sha
open Go Go.RowKit
/-- Two boxes, a header in each. -/
theorem hd_boxes (w : World) (h h' : THd) :
    Below w.heap.size w ((w.alloc (.cells (hdL h).toArray 26)).alloc (.cells (hdL h').toArray 26))
    ∧ HdBox ((w.alloc (.cells (hdL h).toArray 26)).alloc (.cells (hdL h').toArray 26)) w.heap.size h
    ∧ HdBox ((w.alloc (.cells (hdL h).toArray 26)).alloc (.cells (hdL h').toArray 26)) (w.heap.size + 1) h' := by
  refine ⟨(hd_box w h).1.trans ((hd_box (w.alloc (.cells (hdL h).toArray 26)) h').1.mono (hd_box w h).1.size), (hd_box w h).2.below (hd_box _ h').1, ?_⟩
  have q := (hd_box (w.alloc (.cells (hdL h).toArray 26)) h').2
  rwa [World.size_alloc] at q
theorem hd_ext {h g : THd} (h1 : h.ver = g.ver) (h2 : h.prev = g.prev) (h3 : h.root = g.root) (h4 : h.time = g.time) (h5 : h.work = g.work) (h6 : h.nonce = g.nonce) : h = g := by
  cases h; cases g; simp_all
set_option maxHeartbeats 1000000 in
set_option maxRecDepth 100000 in
theorem samehd_any (h g : THd) (hh : HdOk h) (hg : HdOk g) (b : Bool) (hb : b = true ↔ h = g) (w : World) :
    Calls Tryz.prog 63 #[.agg (hdL h).toArray, .agg (hdL g).toArray] w fun e w' => e = .returned (.bool b) ∧ Below w.heap.size w w' := by
  have HH := Lib.hid hh
  have HG := Lib.hid hg
  have NO : Hid (h ≠ g → b = false) := fun n => by cases b with
    | true => exact absurd (hb.1 rfl) n
    | false => rfl
  have YES : Hid (h = g → b = true) := hb.2
  have L1 : Hid ((h.prev.map bV).length = 32) := by show _ = _; rw [List.length_map]; exact hh.2.1
  have L1' : Hid ((g.prev.map bV).length = 32) := by show _ = _; rw [List.length_map]; exact hg.2.1
  have L2 : Hid ((h.root.map bV).length = 32) := by show _ = _; rw [List.length_map]; exact hh.2.2.1
  have L2' : Hid ((g.root.map bV).length = 32) := by show _ = _; rw [List.length_map]; exact hg.2.2.1
  obtain ⟨cs, hcs⟩ : ∃ cs, cs = hdL h := ⟨_, rfl⟩
  obtain ⟨cs', hcs'⟩ : ∃ cs, cs = hdL g := ⟨_, rfl⟩
  rw [← hcs, ← hcs']
  have CS := Lib.hid hcs
  have CS' := Lib.hid hcs'
  clear hcs hcs' hb hh hg
  go_enter Tryz.func63, Tryz.ntmps63
  go_upto_region 1 with fail
  rw [CS.out, CS'.out]
  obtain ⟨B, F, F'⟩ := hd_boxes w h g
  generalize hw1 : World.alloc (World.alloc w _) _ = w1
  rw [hw1] at B F F'
  have B := Lib.hid B
  have F := Lib.hid F
  have F' := Lib.hid F'
  clear hw1 CS CS'
  obtain ⟨ver, hver⟩ : ∃ n, n = h.ver := ⟨_, rfl⟩
  obtain ⟨ver', hver'⟩ : ∃ n, n = g.ver := ⟨_, rfl⟩
  have Ever := Lib.hid hver
  have Ever' := Lib.hid hver'
  clear hver hver'
  obtain ⟨time, htime⟩ : ∃ n, n = h.time := ⟨_, rfl⟩
  obtain ⟨time', htime'⟩ : ∃ n, n = g.time := ⟨_, rfl⟩
  have Etime := Lib.hid htime
  have Etime' := Lib.hid htime'
  clear htime htime'
  obtain ⟨work, hwork⟩ : ∃ n, n = h.work := ⟨_, rfl⟩
  obtain ⟨work', hwork'⟩ : ∃ n, n = g.work := ⟨_, rfl⟩
  have Ework := Lib.hid hwork
  have Ework' := Lib.hid hwork'
  clear hwork hwork'
  obtain ⟨nonce, hnonce⟩ : ∃ n, n = h.nonce := ⟨_, rfl⟩
  obtain ⟨nonce', hnonce'⟩ : ∃ n, n = g.nonce := ⟨_, rfl⟩
  have Enonce := Lib.hid hnonce
  have Enonce' := Lib.hid hnonce'
  clear hnonce hnonce'
  have CC : Hid (∀ w', Below w1.heap.size w1 w' → w'.cell? ⟨w.heap.size, 0, none⟩ = some (.int .u32 (ver : Int)) ∧ w'.cell? ⟨w.heap.size, 65, none⟩ = some (.int .u32 (time : Int)) ∧ w'.cell? ⟨w.heap.size, 66, none⟩ = some (.int .u32 (work : Int)) ∧ w'.cell? ⟨w.heap.size, 67, none⟩ = some (.int .u32 (nonce : Int))) := fun w' hw' => by
    rw [Ever.out, Etime.out, Ework.out, Enonce.out]
    exact (F.out.below hw').cells HH.out
  have CC' : Hid (∀ w', Below w1.heap.size w1 w' → w'.cell? ⟨w.heap.size + 1, 0, none⟩ = some (.int .u32 (ver' : Int)) ∧ w'.cell? ⟨w.heap.size + 1, 65, none⟩ = some (.int .u32 (time' : Int)) ∧ w'.cell? ⟨w.heap.size + 1, 66, none⟩ = some (.int .u32 (work' : Int)) ∧ w'.cell? ⟨w.heap.size + 1, 67, none⟩ = some (.int .u32 (nonce' : Int))) := fun w' hw' => by
    rw [Ever'.out, Etime'.out, Ework'.out, Enonce'.out]
    exact (F'.out.below hw').cells HG.out
  obtain ⟨c0, c65, c66, c67⟩ := CC.out w1 (Below.refl _ _)
  obtain ⟨d0, d65, d66, d67⟩ := CC'.out w1 (Below.refl _ _)
  have R1 : Hid (∀ w', Below w1.heap.size w1 w' → w'.rangeAt w.heap.size 1 (h.prev.map bV)) := fun w' hw' => (F.out.below hw').prev
  have R2 : Hid (∀ w', Below w1.heap.size w1 w' → w'.rangeAt w.heap.size 33 (h.root.map bV)) := fun w' hw' => (F.out.below hw').root HH.out
  have R1' : Hid (∀ w', Below w1.heap.size w1 w' → w'.rangeAt (w.heap.size + 1) 1 (g.prev.map bV)) := fun w' hw' => (F'.out.below hw').prev
  have R2' : Hid (∀ w', Below w1.heap.size w1 w' → w'.rangeAt (w.heap.size + 1) 33 (g.root.map bV)) := fun w' hw' => (F'.out.below hw').root HG.out
  by_cases ever : ver = ver'
  rotate_left
  · have ht : ((ver : Int) == (ver' : Int)) = false := by rw [beq_eq_false_iff_ne]; omega
    obtain rfl : b = false := NO.out (fun e => ever (by rw [Ever.out, Ever'.out, e]))
    clear ever
    go_wp2_with fail
    go_ret
    exact ⟨rfl, B.out⟩
  have tver : ((ver : Int) == (ver' : Int)) = true := by rw [beq_iff_eq]; omega
  have Qver := Lib.hid ever
  clear ever
  go_wp2_with ((with_reducible show wpList _ _ _ _ _ _); first | (refine wpList_load_midG 24 (.tmp 11) rfl w.heap.size 1 rfl (h.prev.map bV) _ (R1.out _ (Below.refl _ _)) Tryz.underlying24 rfl (by rw [L1.out]; kernel_rfl) rfl ?_; go_frame) | (refine wpList_load_midG 24 (.tmp 13) rfl (w.heap.size + 1) 1 rfl (g.prev.map bV) _ (R1'.out _ (Below.refl _ _)) Tryz.underlying24 rfl (by rw [L1'.out]; kernel_rfl) rfl ?_; go_frame))
  refine (same_b h.prev g.prev (by have := L1.out; simpa using this) (by have := L1'.out; simpa using this) _ rfl _).mono ?_
  rintro e w2 ⟨rfl, hb2⟩
  have B1 : Hid (Below w1.heap.size w1 w2) := hb2
  obtain ⟨c0, c65, c66, c67⟩ := CC.out w2 B1.out
  obtain ⟨d0, d65, d66, d67⟩ := CC'.out w2 B1.out
  clear hb2
  by_cases eprev : h.prev = g.prev
  rotate_left
  · rw [decide_eq_false eprev]
    obtain rfl : b = false := NO.out (fun e => eprev (by rw [e]))
    clear eprev
    go_wp2_with fail
    go_ret
    exact ⟨rfl, B.out.trans (B1.out.mono B.out.size)⟩
  rw [decide_eq_true eprev]
  have Qprev := Lib.hid eprev
  clear eprev
  go_wp2_with ((with_reducible show wpList _ _ _ _ _ _); first | (refine wpList_load_midG 24 (.tmp 18) rfl w.heap.size 33 rfl (h.root.map bV) _ (R2.out _ B1.out) Tryz.underlying24 rfl (by rw [L2.out]; kernel_rfl) rfl ?_; go_frame) | (refine wpList_load_midG 24 (.tmp 20) rfl (w.heap.size + 1) 33 rfl (g.root.map bV) _ (R2'.out _ B1.out) Tryz.underlying24 rfl (by rw [L2'.out]; kernel_rfl) rfl ?_; go_frame))
  refine (same_b h.root g.root (by have := L2.out; simpa using this) (by have := L2'.out; simpa using this) _ rfl _).mono ?_
  rintro e w3 ⟨rfl, hb2⟩
  have B2 : Hid (Below w1.heap.size w1 w3) := B1.out.trans (hb2.mono B1.out.size)
  obtain ⟨c0, c65, c66, c67⟩ := CC.out w3 B2.out
  obtain ⟨d0, d65, d66, d67⟩ := CC'.out w3 B2.out
  clear hb2
  by_cases eroot : h.root = g.root
  rotate_left
  · rw [decide_eq_false eroot]
    obtain rfl : b = false := NO.out (fun e => eroot (by rw [e]))
    clear eroot
    go_wp2_with fail
    go_ret
    exact ⟨rfl, B.out.trans (B2.out.mono B.out.size)⟩
  rw [decide_eq_true eroot]
  have Qroot := Lib.hid eroot
  clear eroot
  by_cases etime : time = time'
  rotate_left
  · have ht : ((time : Int) == (time' : Int)) = false := by rw [beq_eq_false_iff_ne]; omega
    obtain rfl : b = false := NO.out (fun e => etime (by rw [Etime.out, Etime'.out, e]))
    clear etime
    go_wp2_with fail
    go_ret
    exact ⟨rfl, B.out.trans (B2.out.mono B.out.size)⟩
  have ttime : ((time : Int) == (time' : Int)) = true := by rw [beq_iff_eq]; omega
  have Qtime := Lib.hid etime
  clear etime
  by_cases ework : work = work'
  rotate_left
  · have ht : ((work : Int) == (work' : Int)) = false := by rw [beq_eq_false_iff_ne]; omega
    obtain rfl : b = false := NO.out (fun e => ework (by rw [Ework.out, Ework'.out, e]))
    clear ework
    go_wp2_with fail
    go_ret
    exact ⟨rfl, B.out.trans (B2.out.mono B.out.size)⟩
  have twork : ((work : Int) == (work' : Int)) = true := by rw [beq_iff_eq]; omega
  have Qwork := Lib.hid ework
  clear ework
  by_cases enonce : nonce = nonce'
  rotate_left
  · have ht : ((nonce : Int) == (nonce' : Int)) = false := by rw [beq_eq_false_iff_ne]; omega
    obtain rfl : b = false := NO.out (fun e => enonce (by rw [Enonce.out, Enonce'.out, e]))
    clear enonce
    go_wp2_with fail
    go_ret
    exact ⟨rfl, B.out.trans (B2.out.mono B.out.size)⟩
  have tnonce : ((nonce : Int) == (nonce' : Int)) = true := by rw [beq_iff_eq]; omega
  have Qnonce := Lib.hid enonce
  clear enonce
  obtain rfl : b = true := YES.out (hd_ext (by rw [← Ever.out, ← Ever'.out]; exact Qver.out) Qprev.out Qroot.out (by rw [← Etime.out, ← Etime'.out]; exact Qtime.out) (by rw [← Ework.out, ← Ework'.out]; exact Qwork.out) (by rw [← Enonce.out, ← Enonce'.out]; exact Qnonce.out))
  go_wp2_with fail
  go_ret
  exact ⟨rfl, B.out.trans (B2.out.mono B.out.size)⟩
end Go.Proofs.YtdamhoagiooicaaGreatDoor.Sha

/-
  Two rows of transactions, two blocks: the same? Nothing that was there turns. Condition: few transactions of a few inputs and outputs that lie in memory.
-/
namespace Go.Proofs.YtdamhoagiooicaaGreatDoor.Sha
open Go Go.RowKit
def StxInv (n : Nat) (l m : List TTx) (w : World) (vi : Value) (wr : World) : Prop := ∃ k : Nat, k ≤ n ∧ vi = .int .i64 k ∧ (∀ j, j < k → l[j]? = m[j]?) ∧ Below w.heap.size w wr
set_option maxHeartbeats 2000000 in
set_option maxRecDepth 100000 in
theorem sametxs_any (l m : List TTx) (v u : Value) (w : World) (h1 : TxsAt w v l) (h2 : TxsAt w u m) (hs : ∀ t ∈ l, TxSmall t) (hl : l.length ≤ 1000) (hm : m.length ≤ 9223372036854775807) (r : Bool) (hr : r = true ↔ l = m) :
    Calls Tryz.prog 64 #[v, u] w fun e w' => e = .returned (.bool r) ∧ Below w.heap.size w w' := by
  obtain ⟨sp, cap, rfl⟩ := h1.shape
  obtain ⟨sq, cap2, rfl⟩ := h2.shape
  obtain ⟨n, hn⟩ : ∃ n, n = l.length := ⟨_, rfl⟩
  obtain ⟨nm, hnm⟩ : ∃ n, n = m.length := ⟨_, rfl⟩
  rw [← hn] at h1 ⊢
  rw [← hnm] at h2 ⊢
  have HT := Lib.hid h1
  have HU := Lib.hid h2
  have NN := Lib.hid hn
  have NM := Lib.hid hnm
  have TS := Lib.hid hs
  have HRr := Lib.hid hr
  have bn : n ≤ 1000 := by rw [hn]; exact hl
  have bm : nm ≤ 9223372036854775807 := by rw [hnm]; exact hm
  clear h1 h2 hn hnm hs hl hm hr
  by_cases hne : n = nm
  · subst hne
    go_enter Tryz.func64, Tryz.ntmps64
    go_wp2_with fail
    go_loopw [5] (fun vi wr => StxInv n l m w vi wr) (fun i _ => n - (intOf i).toNat)
    case atStart => exact ⟨0, by omega, rfl, fun j hj => by omega, Below.refl _ _⟩
    case round =>
      obtain ⟨k, hk, rfl, hp, B⟩ := hrel
      have B := Lib.hid B
      have HP := Lib.hid hp
      clear hp
      by_cases hlt : k < n
      · obtain ⟨b, o, hs1, _, hg⟩ := HT.out.get (by omega)
        obtain ⟨t, hgt⟩ : ∃ t, l[k]? = some t := ⟨_, List.getElem?_eq_getElem (by have := NN.out; omega)⟩
        obtain ⟨iv, ov, hrr, hta⟩ := hg k t hgt
        obtain ⟨b2, o2, hs2, _, hg2⟩ := HU.out.get (by omega)
        obtain ⟨t2, hgt2⟩ : ∃ t, m[k]? = some t := ⟨_, List.getElem?_eq_getElem (by have := NM.out; omega)⟩
        obtain ⟨iv2, ov2, hrr2, hta2⟩ := hg2 k t2 hgt2
        have LC : Hid ((txL t iv ov).length = 4) := rfl
        have LC2 : Hid ((txL t2 iv2 ov2).length = 4) := rfl
        obtain ⟨ct, hct⟩ : ∃ ct, ct = txL t iv ov := ⟨_, rfl⟩
        obtain ⟨cu, hcu⟩ : ∃ cu, cu = txL t2 iv2 ov2 := ⟨_, rfl⟩
        rw [← hct] at hrr hta LC
        rw [← hcu] at hrr2 hta2 LC2
        have R := Lib.hid (range_below hrr B.out)
        have R2 := Lib.hid (range_below hrr2 B.out)
        have GT := Lib.hid hgt
        have GU := Lib.hid hgt2
        obtain ⟨sm, hsm⟩ : ∃ sm : Bool, sm = true ↔ t = t2 := by
          by_cases e : t = t2
          · exact ⟨true, by simp [e]⟩
          · exact ⟨false, by simp [e]⟩
        have SM : Hid (∀ W, Below wr.heap.size wr W → Calls Tryz.prog 100 #[.agg ct.toArray, .agg cu.toArray] W fun e w' => e = .returned (.bool sm) ∧ Below W.heap.size W w') := fun W hW => by
          have ts := TS.out t (List.mem_of_getElem? GT.out)
          exact sametx_any t t2 _ _ W ((hta.below B.out).below hW) ((hta2.below B.out).below hW) (fun x hx => Nat.le_trans (ts.2.2.2 x hx) (by omega)) sm hsm (Nat.le_trans ts.2.1 (by omega)) (Nat.le_trans ts.2.2.1 (by omega))
        have HSM := Lib.hid hsm
        have p0 : 0 ≤ (k : Int) := by omega
        have q0 : (k : Int) < (n : Int) := by omega
        subst hs1 hs2
        clear hg hg2 hgt hgt2 hrr hrr2 hta hta2 hct hcu hsm
        go_wp2_with fail
        refine wp_region_held_drew (S := (fun w' => Below wr.heap.size wr w')) (by kernel_rfl) (Below.drew (Below.refl _ _)) (fun hHeld => ?_)
        generalize hwd : wr.drew = wd at  hHeld ⊢
        clear hwd
        refine held_take (i := 0) (v := (.slice (some ⟨b, o, none⟩) n cap)) rfl (by kernel_rfl) (by kernel_rfl) (by kernel_rfl) (fun _ _ _ h => h) (Or.inl ⟨by rfl, fun w' _ => by kernel_rfl⟩) hHeld ?_
        go_frame
        refine held_take (i := 1) (v := (.int .i64 (k : Int))) rfl (by kernel_rfl) (by kernel_rfl) (by kernel_rfl) (fun _ _ _ h => h) (Or.inl ⟨by rfl, fun w' _ => by kernel_rfl⟩) hHeld ?_
        go_frame
        refine held_take (i := 2) (v := (.pointer (some ⟨b, o + k * 4, none⟩))) rfl (by kernel_rfl) (by kernel_rfl) (by kernel_rfl) (fun _ _ _ h => h) (Or.inl ⟨by rfl, fun w' _ => by go_simp⟩) hHeld ?_
        go_frame
        refine held_take (i := 3) (v := (.agg ct.toArray)) rfl (by kernel_rfl) (by kernel_rfl) (by kernel_rfl) (fun _ _ _ h => h) (Sha.yieldsIf_load_mid (by rfl) 66 (.tmp 20) rfl b (o + k * 4) rfl ct _ (fun w' hw' => range_below R.out hw') Tryz.underlying66 rfl (by rw [LC.out]; kernel_rfl)) hHeld ?_
        go_frame
        refine held_take (i := 4) (v := (.slice (some ⟨b2, o2, none⟩) n cap2)) rfl (by kernel_rfl) (by kernel_rfl) (by kernel_rfl) (fun _ _ _ h => h) (Or.inl ⟨by rfl, fun w' _ => by kernel_rfl⟩) hHeld ?_
        go_frame
        refine held_take (i := 5) (v := (.int .i64 (k : Int))) rfl (by kernel_rfl) (by kernel_rfl) (by kernel_rfl) (fun _ _ _ h => h) (Or.inl ⟨by rfl, fun w' _ => by kernel_rfl⟩) hHeld ?_
        go_frame
        refine held_take (i := 6) (v := (.pointer (some ⟨b2, o2 + k * 4, none⟩))) rfl (by kernel_rfl) (by kernel_rfl) (by kernel_rfl) (fun _ _ _ h => h) (Or.inl ⟨by rfl, fun w' _ => by go_simp⟩) hHeld ?_
        go_frame
        refine held_take (i := 7) (v := (.agg cu.toArray)) rfl (by kernel_rfl) (by kernel_rfl) (by kernel_rfl) (fun _ _ _ h => h) (Sha.yieldsIf_load_mid (by rfl) 66 (.tmp 24) rfl b2 (o2 + k * 4) rfl cu _ (fun w' hw' => range_below R2.out hw') Tryz.underlying66 rfl (by rw [LC2.out]; kernel_rfl)) hHeld ?_
        go_frame
        refine wpAnyH_ready (rs := [8]) (by kernel_rfl) (by simp) (held_cons rfl (fun K hK => ?_) AllReadyH.nil)
        go_simp
        refine (SM.out _ hHeld).mono ?_
        rintro e v1 ⟨rfl, bb⟩
        have hv1 := hHeld.trans (bb.mono hHeld.size)
        clear bb hHeld
        go_wp2_with fail
        refine hK.out _ _ hv1 (fun hHeld => ?_)
        clear hK K hv1
        refine held_take (i := 9) (v := (.bool sm)) rfl (by kernel_rfl) (by kernel_rfl) (by kernel_rfl) (fun _ _ _ h => h) (Or.inl ⟨by rfl, fun w' _ => by kernel_rfl⟩) hHeld ?_
        go_frame
        refine wpAnyH_done (by kernel_rfl) ?_ _
        have B6 := Lib.hid (B.out.trans (hHeld.mono B.out.size))
        clear hHeld
        cases sm with
        | true =>
          go_wp2_with fail
          go_roundw
          case rel =>
            refine ⟨k + 1, by omega, by go_num, fun j hj => ?_, B6.out⟩
            by_cases hjk : j < k
            · exact HP.out j hjk
            · obtain rfl : j = k := by omega
              rw [GT.out, GU.out, HSM.out.1 rfl]
          case measure => simp [intOf]; omega
        | false =>
          obtain rfl : r = false := by
            cases r with
            | false => rfl
            | true =>
              have e := HRr.out.1 rfl
              have h1 := GT.out
              have h2 := GU.out
              rw [e, h2] at h1
              have h3 := HSM.out.2 (Option.some.inj h1).symm
              cases h3
          go_wp2_with fail
          go_ret
          exact ⟨rfl, B6.out⟩
      · have hkn : k = n := by omega
        have hge : ¬ (k : Int) < (n : Int) := by omega
        obtain rfl : r = true := HRr.out.2 (List.ext_getElem? (fun j => by
          by_cases hj : j < n
          · exact HP.out j (by omega)
          · rw [List.getElem?_eq_none (by have := NN.out; omega), List.getElem?_eq_none (by have := NM.out; omega)]))
        clear hkn
        go_wp2_with fail
        go_ret
        exact ⟨rfl, B.out⟩
  · have t1 : ((n : Int) == (nm : Int)) = false := by rw [beq_eq_false_iff_ne]; omega
    have t2 : ((n : Int) != (nm : Int)) = true := by rw [bne_iff_ne]; omega
    obtain rfl : r = false := by
      cases r with
      | false => rfl
      | true =>
        have e := HRr.out.1 rfl
        have h1 := NN.out
        have h2 := NM.out
        rw [e] at h1
        omega
    clear hne
    go_enter Tryz.func64, Tryz.ntmps64
    go_wp2_with fail
    go_ret
    exact ⟨rfl, Below.refl _ _⟩
set_option maxHeartbeats 2000000 in
set_option maxRecDepth 100000 in
theorem samebl_any (x y : TBlk) (v u : Value) (w : World) (h1 : BlkAt w v x) (h2 : BlkAt w u y) (hs : BlkSmall x) (hm : y.txs.length ≤ 9223372036854775807) (r : Bool) (hr : r = true ↔ x = y) :
    Calls Tryz.prog 24 #[v, u] w fun e w' => e = .returned (.bool r) ∧ Below w.heap.size w w' := by
  obtain ⟨hh, tv, rfl, ht⟩ := h1
  obtain ⟨hh2, tu, rfl, hu⟩ := h2
  obtain ⟨sh, hsh⟩ : ∃ sh : Bool, sh = true ↔ x.head = y.head := by
    by_cases e : x.head = y.head
    · exact ⟨true, by simp [e]⟩
    · exact ⟨false, by simp [e]⟩
  obtain ⟨st, hst⟩ : ∃ st : Bool, st = true ↔ x.txs = y.txs := by
    by_cases e : x.txs = y.txs
    · exact ⟨true, by simp [e]⟩
    · exact ⟨false, by simp [e]⟩
  have SH : Hid (∀ W, Calls Tryz.prog 63 #[.agg (hdL x.head).toArray, .agg (hdL y.head).toArray] W fun e w' => e = .returned (.bool sh) ∧ Below W.heap.size W w') := fun W => samehd_any x.head y.head hh hh2 sh hsh W
  have SX : Hid (∀ W, Below w.heap.size w W → Calls Tryz.prog 64 #[tv, tu] W fun e w' => e = .returned (.bool st) ∧ Below W.heap.size W w') := fun W hW => sametxs_any x.txs y.txs tv tu W (ht.below hW) (hu.below hW) hs.1 hs.2 hm st hst
  have HRR : Hid (r = (sh && st)) := by
    show _ = _
    rw [Bool.eq_iff_iff, hr, Bool.and_eq_true, hsh, hst]
    constructor
    · intro e; rw [e]; exact ⟨rfl, rfl⟩
    · rintro ⟨a, b⟩
      obtain ⟨xh, xt⟩ := x
      obtain ⟨yh, yt⟩ := y
      simp only at a b
      rw [a, b]
  obtain ⟨cs, hcs⟩ : ∃ cs, cs = blL x.head tv := ⟨_, rfl⟩
  obtain ⟨ds, hds⟩ : ∃ ds, ds = blL y.head tu := ⟨_, rfl⟩
  rw [← hcs, ← hds]
  have K1 : Hid (∀ W g, W.heap[g]? = some (.cells cs.toArray 29 (0, 0)) → BlBox W g x.head tv) := fun W g h => ⟨by rw [← hcs]; exact h⟩
  have K2 : Hid (∀ W g, W.heap[g]? = some (.cells ds.toArray 29 (0, 0)) → BlBox W g y.head tu) := fun W g h => ⟨by rw [← hds]; exact h⟩
  have L1 : Hid ((hdL x.head).length = 68) := hdL_length hh
  have L2 : Hid ((hdL y.head).length = 68) := hdL_length hh2
  have HH := Lib.hid hh
  have HH2 := Lib.hid hh2
  clear hcs hds hr hsh hst hh hh2 ht hu hs hm
  go_enter Tryz.func24, Tryz.ntmps24
  go_upto_region 1 with fail
  have f1 := row_below (heap_alloc_new w (.cells cs.toArray 29 (0, 0))) ((Below.refl _ _).alloc (Nat.le_refl _) (.cells ds.toArray 29))
  have f2 := heap_alloc_new (w.alloc (.cells cs.toArray 29 (0, 0))) (.cells ds.toArray 29)
  have b1 := ((Below.refl w.heap.size w).alloc (Nat.le_refl _) (.cells cs.toArray 29 (0, 0))).alloc (by simp) (.cells ds.toArray 29)
  rw [World.size_alloc] at f2
  generalize hw1 : World.alloc _ _ = w1
  have e1 : (w.alloc (.cells cs.toArray 29 (0, 0))).alloc (.cells ds.toArray 29) = w1 := hw1
  rw [e1] at f1 f2 b1
  have k1 := K1.out _ _ f1
  have k2 := K2.out _ _ f2
  have R1 := Lib.hid k1.head
  have R2 := Lib.hid k2.head
  have C1 : Hid (∀ W, Below w1.heap.size w1 W → W.cell? ⟨w.heap.size, 68, none⟩ = some tv) := fun W hW => (k1.below hW).txs HH.out
  have C2 : Hid (∀ W, Below w1.heap.size w1 W → W.cell? ⟨w.heap.size + 1, 68, none⟩ = some tu) := fun W hW => (k2.below hW).txs HH2.out
  have B1 := Lib.hid b1
  clear f1 f2 b1 hw1 e1 k1 k2 K1 K2
  obtain ⟨hl, hhl⟩ : ∃ hl, hl = hdL x.head := ⟨_, rfl⟩
  obtain ⟨hm, hhm⟩ : ∃ hl, hl = hdL y.head := ⟨_, rfl⟩
  rw [← hhl] at R1 L1 SH
  rw [← hhm] at R2 L2 SH
  clear hhl hhm
  go_wp2_with ((with_reducible show wpList _ _ _ _ _ _); first | (refine wpList_load_mid rfl 26 (.tmp 5) rfl w.heap.size 0 rfl hl _ R1.out Tryz.underlying26 rfl (by rw [L1.out]; kernel_rfl) ?_; go_frame) | (refine wpList_load_mid rfl 26 (.tmp 7) rfl (w.heap.size + 1) 0 rfl hm _ R2.out Tryz.underlying26 rfl (by rw [L2.out]; kernel_rfl) ?_; go_frame))
  refine (SH.out w1).mono ?_
  rintro e w2 ⟨rfl, hb2⟩
  have B2 := Lib.hid (B1.out.trans (hb2.mono B1.out.size))
  have c1 := C1.out w2 hb2
  have c2 := C2.out w2 hb2
  clear hb2
  cases sh with
  | false =>
    obtain rfl : r = false := HRR.out
    go_wp2_with fail
    go_ret
    exact ⟨rfl, B2.out⟩
  | true =>
    obtain rfl : r = st := HRR.out
    go_wp2_with fail
    refine (SX.out w2 B2.out).mono ?_
    rintro e w3 ⟨rfl, hb3⟩
    have B3 := Lib.hid (B2.out.trans (hb3.mono B2.out.size))
    clear hb3
    go_wp2_with fail
    go_ret
    exact ⟨rfl, B3.out⟩
end Go.Proofs.YtdamhoagiooicaaGreatDoor.Sha

/-
  The statement on a block's bytes read again, and on bytes that are read, answers true. Conditions: the block and the bytes lie in memory, the errors and the table of the rounds' words are there.
-/
namespace Go.Proofs.YtdamhoagiooicaaGreatDoor.Sha
open Go Go.RowKit
set_option maxHeartbeats 8000000 in
set_option maxRecDepth 100000 in
theorem blockback_main (E : Nat → Addr) (t : TBlk) (bs : List UInt8) (cut : Int) (v : Value) (sp : Option Addr) (n cap : Nat) (w : World) (hE : Errs w E) (hk : KTab w) (h1 : BlkAt w v t) (k1 : BlkCame t) (hs : SrcB w (.slice sp n cap) bs) (hn0 : n ≤ 9223372036854775807) (hcut : -9223372036854775808 ≤ cut ∧ cut ≤ 9223372036854775807) :
    Calls Tryz.prog 4 #[v, .slice sp n cap, .int .i64 cut] w fun e w' => e = .returned (.bool true) ∧ Below w.heap.size w w' := by
  have H1 := Lib.hid h1
  have HH := Lib.hid h1.1
  obtain ⟨cs, rfl, lcs, ocs⟩ := blk_parts h1
  have LCS := Lib.hid lcs
  have HE := Lib.hid hE
  have HK := Lib.hid hk
  have K1 := Lib.hid k1
  have HF : Hid (∀ W, Below w.heap.size w W → Calls Tryz.prog 5 #[] W fun e w' => e = .returned (.bool true) ∧ Below W.heap.size W w') := fun W hW => first7 E W (hk.below hW) (hE.below hW).eB
  have HS := Lib.hid hs
  have HN := Lib.hid hs.le.1
  obtain ⟨i0, hi, hz0, hz1, hz2⟩ := info_parts info_u8
  clear hE hk k1 hs h1 lcs ocs
  go_enter Tryz.func4, Tryz.ntmps4
  go_upto_region 1 with fail
  obtain ⟨b1, f1⟩ := box1 w cs 29
  generalize hw1 : World.alloc _ _ = w1
  rw [hw1] at b1 f1
  have B := Lib.hid b1
  have F := Lib.hid f1
  clear hw1 b1 f1
  go_upto_region 4 with (go_at_call 5; refine (HF.out _ B.out).mono ?_; rintro e w2 ⟨rfl, hb2⟩; have F := Lib.hid (row_below F.out hb2); have B := Lib.hid (B.out.trans (hb2.mono B.out.size)); clear hb2)
  clear HF
  go_wp2_with ((with_reducible show wpList _ _ _ _ _ _); (refine wpList_load_row rfl 29 (.tmp 3) rfl w.heap.size rfl 29 cs.toArray (0, 0) _ F.out Tryz.underlying29 rfl (by rw [LCS.out]; kernel_rfl) ?_; go_frame))
  refine (bllight_any t _ w2 (H1.out.below B.out) K1.out.1 K1.out.2).mono ?_
  rintro e w3 ⟨l1, rfl, hsm, hb3⟩
  have F := Lib.hid (row_below F.out hb3)
  have B := Lib.hid (B.out.trans (hb3.mono B.out.size))
  clear hb3
  cases l1
  · clear hsm
    go_wp2_with fail
    go_ret
    exact ⟨rfl, B.out⟩
  have TS := Lib.hid (hsm rfl)
  clear hsm
  by_cases hn : n ≤ 8000
  rotate_left
  · have c1 : (8000 : Int) < (n : Int) := by omega
    go_wp2_with fail
    go_ret
    exact ⟨rfl, B.out⟩
  have c1 : ¬ (8000 : Int) < (n : Int) := by omega
  obtain ⟨u, c, hr⟩ := bread_pair bs
  have HR := Lib.hid hr
  clear hr
  go_wp2_with fail
  have SX := Lib.hid (HS.out.below B.out)
  refine (read_blk E bs _ _ u c HR.out (HE.out.below B.out).e8.er SX.out (by have := HN.out; omega)).mono ?_
  rintro e w4 ⟨v4, rfl, ht, hb⟩
  have T4 := Lib.hid ht
  obtain ⟨c4, rfl, l4, o4⟩ := blk_parts ht
  have L4 := Lib.hid l4
  have O4 := Lib.hid o4
  have F := Lib.hid (row_below F.out hb)
  have B := Lib.hid (B.out.trans (hb.mono B.out.size))

  clear hb ht l4 o4
  clear SX
  go_upto_region 7 with ((with_reducible show wpList _ _ _ _ _ _); (refine wpList_store_row rfl 29 (.tmp 8) (.tmp 32) rfl w4.heap.size c4.toArray rfl rfl 29 _ (heap_alloc_new _ _) (by rw [L4.out]; kernel_rfl) (by rw [L4.out]; rfl) O4.out ?_; go_frame))
  obtain ⟨_, f2, f3, f4⟩ := fill_setup (Below.refl w4.heap.size w4) Tryz.zeroCells29 c4.toArray 29
  obtain ⟨g4, hg⟩ : ∃ g, g = w4.heap.size := ⟨_, rfl⟩
  generalize hw : World.setRow _ _ _ = w5
  rw [hw] at f2 f3 f4
  rw [← hg] at f2 ⊢
  have F := Lib.hid (row_below F.out f4)
  have B := Lib.hid (B.out.trans (f4.mono B.out.size))
  have T4 := Lib.hid (T4.out.below f4)
  have G4 := Lib.hid f2
  clear hw f2 f3 f4 hg
  have SBS : Hid (SrcB w5 (.slice sp n cap) bs) := HS.out.below B.out
  have H1 := Lib.hid (H1.out.below B.out)
  have HE := Lib.hid (HE.out.below B.out)
  have B0 := B
  have B : Hid (Below w5.heap.size w5 w5) := Below.refl _ _
  have hfin : Hid (∀ w', Below w5.heap.size w5 w' → Below w.heap.size w w') := fun w' h => B0.out.trans (h.mono B0.out.size)
  have HSM : Hid ((blkB t).length ≤ 200200000000) := TS.out.len HH.out
  obtain ⟨nb, hnb⟩ : ∃ nb, nb = (blkB t).length := ⟨_, rfl⟩
  have NB := Lib.hid hnb
  have h81 : 81 ≤ nb := by rw [hnb]; exact blkB_81 HH.out
  have hnb2 : nb ≤ 200200000000 := by rw [hnb]; exact HSM.out
  obtain ⟨j, hj, hj2⟩ := numb_nat cut nb (by omega)
  have HNUM : Hid (∀ W, Calls Tryz.prog 27 #[.int .i64 cut, .int .i64 nb] W fun e w' => e = .returned (.int .i64 (j : Int)) ∧ W = w') := fun W => by rw [← hj]; exact numb_any cut (nb : Int) (by omega) (by omega) hcut W
  clear hnb hj hcut B0
  cases c with
  | zero =>
    rw [show errV E 0 = Value.nilIface from rfl]
    obtain ⟨hu1, hu2⟩ := blk_back (b := bs) (congrArg Prod.snd HR.out.eq)
    rw [HR.out.eq] at hu1 hu2
    have hu1 : bs = blkB u := hu1
    have UE : Hid (true = decide (blkB u = bs)) := by show _ = _; rw [hu1, decide_eq_true rfl]
    have UL : Hid ((blkB u).length ≤ 70368744177680) := by show _ ≤ _; rw [← hu1]; have := HN.out; omega
    have US : Hid (BlkSmall u) := hu2.small
    clear hu1 hu2
    go_upto_region 9 with (first | ((with_reducible show wpList _ _ _ _ _ _); (refine wpList_load_rowG 29 (.tmp 8) rfl g4 rfl 29 c4.toArray (0, 0) _ G4.out Tryz.underlying29 rfl (by rw [L4.out]; kernel_rfl) rfl ?_; go_frame)) | (go_at_call 11; refine (blbytes_any u _ _ (T4.out.below B.out) US.out).mono ?_; rintro e w6 ⟨v6, rfl, hc6⟩; have S6 := Lib.hid hc6.src; have F := Lib.hid (row_below F.out hc6.2); have B := Lib.hid (B.out.trans (hc6.2.mono B.out.size)); clear hc6) | (go_at_call 10; refine (same_bytes_v (blkB u) bs _ _ true _ S6.out (SBS.out.below B.out) UE.out UL.out).mono ?_; rintro e w7 ⟨rfl, hb7⟩; have F := Lib.hid (row_below F.out hb7); have B := Lib.hid (B.out.trans (hb7.mono B.out.size)); clear hb7))
    go_wp2_with ((with_reducible show wpList _ _ _ _ _ _); (refine wpList_load_row rfl 29 (.tmp 3) rfl w.heap.size rfl 29 cs.toArray (0, 0) _ F.out Tryz.underlying29 rfl (by rw [LCS.out]; kernel_rfl) ?_; go_frame))
    refine (blbytes_any t _ _ (H1.out.below B.out) TS.out).mono ?_
    rintro e w8 ⟨v8, rfl, hc8⟩
    have hb8 := hc8.2
    have hsb := hc8.src
    obtain ⟨sb, cb, hvb⟩ := hsb.shape
    rw [← NB.out] at hvb
    subst hvb
    have SB := Lib.hid hsb
    have F := Lib.hid (row_below F.out hb8)
    have B := Lib.hid (B.out.trans (hb8.mono B.out.size))
    have c2 : ¬ (nb : Int) < 81 := by omega
    have hcb : nb ≤ cb := hsb.le.2
    clear hsb hc8 hb8
    go_wp2_with ((with_reducible show wpList _ _ _ _ _ _); (refine wpList_load_row rfl 29 (.tmp 3) rfl w.heap.size rfl 29 cs.toArray (0, 0) _ F.out Tryz.underlying29 rfl (by rw [LCS.out]; kernel_rfl) ?_; go_frame))
    refine (blcheck_any E t _ _ (H1.out.below B.out) TS.out (HK.out.below (hfin.out _ B.out)) (HE.out.below B.out).eB).mono ?_
    rintro e w9 ⟨u9, rfl, hf9, hb9⟩
    have F := Lib.hid (row_below F.out hb9)
    have B := Lib.hid (B.out.trans (hb9.mono B.out.size))
    have SB := Lib.hid (SB.out.below hb9)
    clear hb9
    rcases flt_cases hf9 with ⟨hfine, rfl⟩ | ⟨q, rfl⟩ | ⟨g, rfl⟩
    rotate_left
    · clear hf9
      go_wp2_with fail
      go_ret
      exact ⟨rfl, hfin.out _ B.out⟩
    · clear hf9
      go_wp2_with fail
      go_ret
      exact ⟨rfl, hfin.out _ B.out⟩
    · clear hf9
      have hTR := blkR_read HH.out TS.out hfine
      have R1 : Hid (BRead (blkB t) t 0) := ⟨blk_own hTR⟩
      have R2 : Hid (BRead ((blkB t).take j) noBlk 1) := ⟨blk_cut hTR (by rw [← NB.out]; exact hj2)⟩
      have R3 : Hid (BRead (blkB t ++ [0]) noBlk 2) := ⟨blk_long hTR (by simp)⟩
      clear hTR hfine
      go_wp2_with fail
      refine (read_blk E (blkB t) _ _ t 0 R1.out (HE.out.below B.out).e8.er SB.out (by have := HSM.out; omega)).mono ?_
      rintro e w10 ⟨v10, rfl, ht, hb⟩
      have T10 := Lib.hid ht
      obtain ⟨c10, rfl, l10, o10⟩ := blk_parts ht
      have L10 := Lib.hid l10
      have O10 := Lib.hid o10
      have F := Lib.hid (row_below F.out hb)
      have B := Lib.hid (B.out.trans (hb.mono B.out.size))
      have SB := Lib.hid (SB.out.below hb)
      clear hb ht l10 o10

      rw [show errV E 0 = Value.nilIface from rfl]
      go_upto_region 15 with ((with_reducible show wpList _ _ _ _ _ _); (refine wpList_store_row rfl 29 (.tmp 11) (.tmp 55) rfl w10.heap.size c10.toArray rfl rfl 29 _ (heap_alloc_new _ _) (by rw [L10.out]; kernel_rfl) (by rw [L10.out]; rfl) O10.out ?_; go_frame))
      obtain ⟨_, f2, f3, f4⟩ := fill_setup (Below.refl w10.heap.size w10) Tryz.zeroCells29 c10.toArray 29
      obtain ⟨g11, hg⟩ : ∃ g, g = w10.heap.size := ⟨_, rfl⟩
      generalize hw : World.setRow _ _ _ = w11
      rw [hw] at f2 f3 f4
      rw [← hg] at f2 ⊢
      have F := Lib.hid (row_below F.out f4)
      have B := Lib.hid (B.out.trans (f4.mono B.out.size))
      have SB := Lib.hid (SB.out.below f4)
      have T10 := Lib.hid (T10.out.below f4)
      have G11 := Lib.hid f2
      clear hw f2 f3 f4 hg

      go_wp2_with fail
      refine (HNUM.out _).mono ?_
      rintro e w' ⟨rfl, rfl⟩
      go_wp2_with ((with_reducible show wpList _ _ _ _ _ _); refine wpList_cut_h rfl 30 (.tmp 58) (.tmp 62) rfl 5 Tryz.underlying30 (by kernel_rfl) sb nb cb j rfl rfl (by omega) ?_; intro vh hvh; go_frame)
      have sc := src_sliced SB.out 0 j (by omega) (by omega)
      rw [List.drop_zero, ← hvh.out] at sc
      have SC := Lib.hid sc
      clear sc hvh
      refine (read_blk E ((blkB t).take j) _ _ noBlk 1 R2.out (HE.out.below B.out).e8.er SC.out (by have := HSM.out; rw [List.length_take]; omega)).mono ?_
      rintro e w12 ⟨v12, rfl, ht, hb⟩
      have T12 := Lib.hid ht
      obtain ⟨c12, rfl, l12, o12⟩ := blk_parts ht
      have L12 := Lib.hid l12
      have O12 := Lib.hid o12
      have F := Lib.hid (row_below F.out hb)
      have B := Lib.hid (B.out.trans (hb.mono B.out.size))
      have SB := Lib.hid (SB.out.below hb)
      have T10 := Lib.hid (T10.out.below hb)
      have G11 := Lib.hid (row_below G11.out hb)
      clear hb ht l12 o12

      clear SC
      go_upto_region 16 with ((with_reducible show wpList _ _ _ _ _ _); (refine wpList_store_row rfl 29 (.tmp 13) (.tmp 65) rfl w12.heap.size c12.toArray rfl rfl 29 _ (heap_alloc_new _ _) (by rw [L12.out]; kernel_rfl) (by rw [L12.out]; rfl) O12.out ?_; go_frame))
      obtain ⟨_, f2, f3, f4⟩ := fill_setup (Below.refl w12.heap.size w12) Tryz.zeroCells29 c12.toArray 29
      obtain ⟨g13, hg⟩ : ∃ g, g = w12.heap.size := ⟨_, rfl⟩
      generalize hw : World.setRow _ _ _ = w13
      rw [hw] at f2 f3 f4
      rw [← hg] at f2 ⊢
      have F := Lib.hid (row_below F.out f4)
      have B := Lib.hid (B.out.trans (f4.mono B.out.size))
      have SB := Lib.hid (SB.out.below f4)
      have T10 := Lib.hid (T10.out.below f4)
      have G11 := Lib.hid (row_below G11.out f4)
      clear hw f2 f3 f4 hg

      go_wp2_with fail
      refine (bytes_copy_any (blkB t) sb nb cb _ SB.out (by omega)).mono ?_
      rintro e w14 ⟨rfl, ho14, hb14⟩
      have HO14 := Lib.hid ho14
      have HB14 := Lib.hid hb14
      clear ho14 hb14
      go_wp2_with (at_builtin; refine wpList_append_own _ rfl _ _ 30 rfl w13.heap.size 5 i0 (.int .u8 0) 1 1 Tryz.underlying30 hi hz0 hz1 hz2 rfl (by decide) _ _ _ rfl (HO14.out.alloc _) ⟨w14.heap.size, 0, none⟩ 1 1 [.int .u8 0] rfl rfl (cell_one_new _ _ _) (one_u8 _) (by unfold maxLen; omega) (by omega) (by have := HB14.out.size; simp; omega) ?_; intro v15 w15 ho15 hg15 hx15; clear hx15; have HO15 := Lib.hid ho15; have HG15 := Lib.hid hg15; clear ho15 hg15; go_frame)
      have hb15 : Below w13.heap.size w13 w15 := (HB14.out.alloc HB14.out.size _).grown HG15.out (by have := HB14.out.size; simp; omega) (fun k hk => by cases hk; exact Nat.le_refl _)
      have S15 : Hid (SrcB w15 v15 (blkB t ++ [0])) := src_own (n := nb + 1) (by rw [List.map_append]; exact HO15.out)
      have F := Lib.hid (row_below F.out hb15)
      have B := Lib.hid (B.out.trans (hb15.mono B.out.size))
      have T10 := Lib.hid (T10.out.below hb15)
      have G11 := Lib.hid (row_below G11.out hb15)
      clear hb15 HO14 HB14 HO15 HG15 SB
      refine (read_blk E (blkB t ++ [0]) _ _ noBlk 2 R3.out (HE.out.below B.out).e8.er S15.out (by have := HSM.out; rw [List.length_append]; simp; omega)).mono ?_
      rintro e w16 ⟨v16, rfl, ht, hb⟩
      have T16 := Lib.hid ht
      obtain ⟨c16, rfl, l16, o16⟩ := blk_parts ht
      have L16 := Lib.hid l16
      have O16 := Lib.hid o16
      have F := Lib.hid (row_below F.out hb)
      have B := Lib.hid (B.out.trans (hb.mono B.out.size))
      have T10 := Lib.hid (T10.out.below hb)
      have G11 := Lib.hid (row_below G11.out hb)
      clear hb ht l16 o16

      clear S15
      go_upto_region 17 with ((with_reducible show wpList _ _ _ _ _ _); (refine wpList_store_row rfl 29 (.tmp 15) (.tmp 73) rfl w16.heap.size c16.toArray rfl rfl 29 _ (heap_alloc_new _ _) (by rw [L16.out]; kernel_rfl) (by rw [L16.out]; rfl) O16.out ?_; go_frame))
      obtain ⟨_, f2, f3, f4⟩ := fill_setup (Below.refl w16.heap.size w16) Tryz.zeroCells29 c16.toArray 29
      obtain ⟨g17, hg⟩ : ∃ g, g = w16.heap.size := ⟨_, rfl⟩
      generalize hw : World.setRow _ _ _ = w17
      rw [hw] at f2 f3 f4
      rw [← hg] at f2 ⊢
      have F := Lib.hid (row_below F.out f4)
      have B := Lib.hid (B.out.trans (f4.mono B.out.size))
      have T10 := Lib.hid (T10.out.below f4)
      have G11 := Lib.hid (row_below G11.out f4)
      clear hw f2 f3 f4 hg

      go_wp2_with (first | ((with_reducible show wpList _ _ _ _ _ _); (refine wpList_load_rowG 29 (.tmp 11) rfl g11 rfl 29 c10.toArray (0, 0) _ G11.out Tryz.underlying29 rfl (by rw [L10.out]; kernel_rfl) rfl ?_; go_frame)) | ((with_reducible show wpList _ _ _ _ _ _); (refine wpList_load_rowG 29 (.tmp 3) rfl w.heap.size rfl 29 cs.toArray (0, 0) _ F.out Tryz.underlying29 rfl (by rw [LCS.out]; kernel_rfl) rfl ?_; go_frame)))
      refine (samebl_any t t _ _ _ T10.out (H1.out.below B.out) TS.out (Nat.le_trans TS.out.2 (by omega)) true samebl_self).mono ?_
      rintro e w18 ⟨rfl, hb18⟩
      have B := Lib.hid (B.out.trans (hb18.mono B.out.size))
      clear hb18
      go_wp2_with fail
      refine (is_any E 1 101 true rfl _ (HE.out.below B.out) (by omega)).mono ?_
      rintro e w19 ⟨rfl, hb19⟩
      have B := Lib.hid (B.out.trans (hb19.mono B.out.size))
      clear hb19
      go_wp2_with fail
      refine (is_any E 2 102 true rfl _ (HE.out.below B.out) (by omega)).mono ?_
      rintro e w19 ⟨rfl, hb19⟩
      have B := Lib.hid (B.out.trans (hb19.mono B.out.size))
      clear hb19
      go_wp2_with fail
      go_ret
      exact ⟨rfl, hfin.out _ B.out⟩
  | succ c =>
    rw [show errV E (c + 1) = Value.iface 176 (.pointer (some (E c))) from rfl]
    go_upto_region 9 with fail
    go_wp2_with ((with_reducible show wpList _ _ _ _ _ _); (refine wpList_load_row rfl 29 (.tmp 3) rfl w.heap.size rfl 29 cs.toArray (0, 0) _ F.out Tryz.underlying29 rfl (by rw [LCS.out]; kernel_rfl) ?_; go_frame))
    refine (blbytes_any t _ _ (H1.out.below B.out) TS.out).mono ?_
    rintro e w8 ⟨v8, rfl, hc8⟩
    have hb8 := hc8.2
    have hsb := hc8.src
    obtain ⟨sb, cb, hvb⟩ := hsb.shape
    rw [← NB.out] at hvb
    subst hvb
    have SB := Lib.hid hsb
    have F := Lib.hid (row_below F.out hb8)
    have B := Lib.hid (B.out.trans (hb8.mono B.out.size))
    have c2 : ¬ (nb : Int) < 81 := by omega
    have hcb : nb ≤ cb := hsb.le.2
    clear hsb hc8 hb8
    go_wp2_with ((with_reducible show wpList _ _ _ _ _ _); (refine wpList_load_row rfl 29 (.tmp 3) rfl w.heap.size rfl 29 cs.toArray (0, 0) _ F.out Tryz.underlying29 rfl (by rw [LCS.out]; kernel_rfl) ?_; go_frame))
    refine (blcheck_any E t _ _ (H1.out.below B.out) TS.out (HK.out.below (hfin.out _ B.out)) (HE.out.below B.out).eB).mono ?_
    rintro e w9 ⟨u9, rfl, hf9, hb9⟩
    have F := Lib.hid (row_below F.out hb9)
    have B := Lib.hid (B.out.trans (hb9.mono B.out.size))
    have SB := Lib.hid (SB.out.below hb9)
    clear hb9
    rcases flt_cases hf9 with ⟨hfine, rfl⟩ | ⟨q, rfl⟩ | ⟨g, rfl⟩
    rotate_left
    · clear hf9
      go_wp2_with fail
      go_ret
      exact ⟨rfl, hfin.out _ B.out⟩
    · clear hf9
      go_wp2_with fail
      go_ret
      exact ⟨rfl, hfin.out _ B.out⟩
    · clear hf9
      have hTR := blkR_read HH.out TS.out hfine
      have R1 : Hid (BRead (blkB t) t 0) := ⟨blk_own hTR⟩
      have R2 : Hid (BRead ((blkB t).take j) noBlk 1) := ⟨blk_cut hTR (by rw [← NB.out]; exact hj2)⟩
      have R3 : Hid (BRead (blkB t ++ [0]) noBlk 2) := ⟨blk_long hTR (by simp)⟩
      clear hTR hfine
      go_wp2_with fail
      refine (read_blk E (blkB t) _ _ t 0 R1.out (HE.out.below B.out).e8.er SB.out (by have := HSM.out; omega)).mono ?_
      rintro e w10 ⟨v10, rfl, ht, hb⟩
      have T10 := Lib.hid ht
      obtain ⟨c10, rfl, l10, o10⟩ := blk_parts ht
      have L10 := Lib.hid l10
      have O10 := Lib.hid o10
      have F := Lib.hid (row_below F.out hb)
      have B := Lib.hid (B.out.trans (hb.mono B.out.size))
      have SB := Lib.hid (SB.out.below hb)
      clear hb ht l10 o10

      rw [show errV E 0 = Value.nilIface from rfl]
      go_upto_region 15 with ((with_reducible show wpList _ _ _ _ _ _); (refine wpList_store_row rfl 29 (.tmp 11) (.tmp 55) rfl w10.heap.size c10.toArray rfl rfl 29 _ (heap_alloc_new _ _) (by rw [L10.out]; kernel_rfl) (by rw [L10.out]; rfl) O10.out ?_; go_frame))
      obtain ⟨_, f2, f3, f4⟩ := fill_setup (Below.refl w10.heap.size w10) Tryz.zeroCells29 c10.toArray 29
      obtain ⟨g11, hg⟩ : ∃ g, g = w10.heap.size := ⟨_, rfl⟩
      generalize hw : World.setRow _ _ _ = w11
      rw [hw] at f2 f3 f4
      rw [← hg] at f2 ⊢
      have F := Lib.hid (row_below F.out f4)
      have B := Lib.hid (B.out.trans (f4.mono B.out.size))
      have SB := Lib.hid (SB.out.below f4)
      have T10 := Lib.hid (T10.out.below f4)
      have G11 := Lib.hid f2
      clear hw f2 f3 f4 hg

      go_wp2_with fail
      refine (HNUM.out _).mono ?_
      rintro e w' ⟨rfl, rfl⟩
      go_wp2_with ((with_reducible show wpList _ _ _ _ _ _); refine wpList_cut_h rfl 30 (.tmp 58) (.tmp 62) rfl 5 Tryz.underlying30 (by kernel_rfl) sb nb cb j rfl rfl (by omega) ?_; intro vh hvh; go_frame)
      have sc := src_sliced SB.out 0 j (by omega) (by omega)
      rw [List.drop_zero, ← hvh.out] at sc
      have SC := Lib.hid sc
      clear sc hvh
      refine (read_blk E ((blkB t).take j) _ _ noBlk 1 R2.out (HE.out.below B.out).e8.er SC.out (by have := HSM.out; rw [List.length_take]; omega)).mono ?_
      rintro e w12 ⟨v12, rfl, ht, hb⟩
      have T12 := Lib.hid ht
      obtain ⟨c12, rfl, l12, o12⟩ := blk_parts ht
      have L12 := Lib.hid l12
      have O12 := Lib.hid o12
      have F := Lib.hid (row_below F.out hb)
      have B := Lib.hid (B.out.trans (hb.mono B.out.size))
      have SB := Lib.hid (SB.out.below hb)
      have T10 := Lib.hid (T10.out.below hb)
      have G11 := Lib.hid (row_below G11.out hb)
      clear hb ht l12 o12

      clear SC
      go_upto_region 16 with ((with_reducible show wpList _ _ _ _ _ _); (refine wpList_store_row rfl 29 (.tmp 13) (.tmp 65) rfl w12.heap.size c12.toArray rfl rfl 29 _ (heap_alloc_new _ _) (by rw [L12.out]; kernel_rfl) (by rw [L12.out]; rfl) O12.out ?_; go_frame))
      obtain ⟨_, f2, f3, f4⟩ := fill_setup (Below.refl w12.heap.size w12) Tryz.zeroCells29 c12.toArray 29
      obtain ⟨g13, hg⟩ : ∃ g, g = w12.heap.size := ⟨_, rfl⟩
      generalize hw : World.setRow _ _ _ = w13
      rw [hw] at f2 f3 f4
      rw [← hg] at f2 ⊢
      have F := Lib.hid (row_below F.out f4)
      have B := Lib.hid (B.out.trans (f4.mono B.out.size))
      have SB := Lib.hid (SB.out.below f4)
      have T10 := Lib.hid (T10.out.below f4)
      have G11 := Lib.hid (row_below G11.out f4)
      clear hw f2 f3 f4 hg

      go_wp2_with fail
      refine (bytes_copy_any (blkB t) sb nb cb _ SB.out (by omega)).mono ?_
      rintro e w14 ⟨rfl, ho14, hb14⟩
      have HO14 := Lib.hid ho14
      have HB14 := Lib.hid hb14
      clear ho14 hb14
      go_wp2_with (at_builtin; refine wpList_append_own _ rfl _ _ 30 rfl w13.heap.size 5 i0 (.int .u8 0) 1 1 Tryz.underlying30 hi hz0 hz1 hz2 rfl (by decide) _ _ _ rfl (HO14.out.alloc _) ⟨w14.heap.size, 0, none⟩ 1 1 [.int .u8 0] rfl rfl (cell_one_new _ _ _) (one_u8 _) (by unfold maxLen; omega) (by omega) (by have := HB14.out.size; simp; omega) ?_; intro v15 w15 ho15 hg15 hx15; clear hx15; have HO15 := Lib.hid ho15; have HG15 := Lib.hid hg15; clear ho15 hg15; go_frame)
      have hb15 : Below w13.heap.size w13 w15 := (HB14.out.alloc HB14.out.size _).grown HG15.out (by have := HB14.out.size; simp; omega) (fun k hk => by cases hk; exact Nat.le_refl _)
      have S15 : Hid (SrcB w15 v15 (blkB t ++ [0])) := src_own (n := nb + 1) (by rw [List.map_append]; exact HO15.out)
      have F := Lib.hid (row_below F.out hb15)
      have B := Lib.hid (B.out.trans (hb15.mono B.out.size))
      have T10 := Lib.hid (T10.out.below hb15)
      have G11 := Lib.hid (row_below G11.out hb15)
      clear hb15 HO14 HB14 HO15 HG15 SB
      refine (read_blk E (blkB t ++ [0]) _ _ noBlk 2 R3.out (HE.out.below B.out).e8.er S15.out (by have := HSM.out; rw [List.length_append]; simp; omega)).mono ?_
      rintro e w16 ⟨v16, rfl, ht, hb⟩
      have T16 := Lib.hid ht
      obtain ⟨c16, rfl, l16, o16⟩ := blk_parts ht
      have L16 := Lib.hid l16
      have O16 := Lib.hid o16
      have F := Lib.hid (row_below F.out hb)
      have B := Lib.hid (B.out.trans (hb.mono B.out.size))
      have T10 := Lib.hid (T10.out.below hb)
      have G11 := Lib.hid (row_below G11.out hb)
      clear hb ht l16 o16

      clear S15
      go_upto_region 17 with ((with_reducible show wpList _ _ _ _ _ _); (refine wpList_store_row rfl 29 (.tmp 15) (.tmp 73) rfl w16.heap.size c16.toArray rfl rfl 29 _ (heap_alloc_new _ _) (by rw [L16.out]; kernel_rfl) (by rw [L16.out]; rfl) O16.out ?_; go_frame))
      obtain ⟨_, f2, f3, f4⟩ := fill_setup (Below.refl w16.heap.size w16) Tryz.zeroCells29 c16.toArray 29
      obtain ⟨g17, hg⟩ : ∃ g, g = w16.heap.size := ⟨_, rfl⟩
      generalize hw : World.setRow _ _ _ = w17
      rw [hw] at f2 f3 f4
      rw [← hg] at f2 ⊢
      have F := Lib.hid (row_below F.out f4)
      have B := Lib.hid (B.out.trans (f4.mono B.out.size))
      have T10 := Lib.hid (T10.out.below f4)
      have G11 := Lib.hid (row_below G11.out f4)
      clear hw f2 f3 f4 hg

      go_wp2_with (first | ((with_reducible show wpList _ _ _ _ _ _); (refine wpList_load_rowG 29 (.tmp 11) rfl g11 rfl 29 c10.toArray (0, 0) _ G11.out Tryz.underlying29 rfl (by rw [L10.out]; kernel_rfl) rfl ?_; go_frame)) | ((with_reducible show wpList _ _ _ _ _ _); (refine wpList_load_rowG 29 (.tmp 3) rfl w.heap.size rfl 29 cs.toArray (0, 0) _ F.out Tryz.underlying29 rfl (by rw [LCS.out]; kernel_rfl) rfl ?_; go_frame)))
      refine (samebl_any t t _ _ _ T10.out (H1.out.below B.out) TS.out (Nat.le_trans TS.out.2 (by omega)) true samebl_self).mono ?_
      rintro e w18 ⟨rfl, hb18⟩
      have B := Lib.hid (B.out.trans (hb18.mono B.out.size))
      clear hb18
      go_wp2_with fail
      refine (is_any E 1 101 true rfl _ (HE.out.below B.out) (by omega)).mono ?_
      rintro e w19 ⟨rfl, hb19⟩
      have B := Lib.hid (B.out.trans (hb19.mono B.out.size))
      clear hb19
      go_wp2_with fail
      refine (is_any E 2 102 true rfl _ (HE.out.below B.out) (by omega)).mono ?_
      rintro e w19 ⟨rfl, hb19⟩
      have B := Lib.hid (B.out.trans (hb19.mono B.out.size))
      clear hb19
      go_wp2_with fail
      go_ret
      exact ⟨rfl, hfin.out _ B.out⟩
end Go.Proofs.YtdamhoagiooicaaGreatDoor.Sha
